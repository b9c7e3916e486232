import Derived.Test.YtkcgmnhjofoeiaaGreatCom17
import Derived.Test.YtkcgmnhjofoeiaaGreatCom4
import Derived.Test.YtkcgmnhjofoeiaaGreatCom14
import Derived.Test.YtkcgmnhjofoeiaaGreatCom3
import Derived.Test.YtkcgmnhjofoeiaaGreatCom15
import Derived.Shelf.SlicesQ.Equal
import Derived.Shelf.SlicesQ.IndexFunc
import Derived.Laws.StructEq
import Derived.Sort.Walk0
import Derived.Shelf.SlSortCmp.NoneTotal
import Derived.Shelf.Slices.In.SortNone
import Derived.Sort.OwnSorted
import Derived.Great.Walk
set_option maxRecDepth 100000
set_option linter.all false
set_option maxHeartbeats 12800000
namespace Go.Proofs.YtkcgmnhjofoeiaaGreat
open Go.RowKit
theorem Pth.own_at {w w' : World} {base t size n : Nat} {v : Value} {xs : List Value} (h : w.ownsRow base t size v n xs) (k : ∀ i, v.ownBlock = some i → w'.heap[i]? = w.heap[i]?) : w'.ownsRow base t size v n xs := by
 refine ⟨h.1, ?_⟩
 rcases h.2 with hn | ⟨g, cap, cur, rfl, hb, hgg, rest⟩
 ·exact .inl hn
 ·exact .inr ⟨g, cap, cur, rfl, hb, (k g rfl).trans hgg, rest⟩
structure NmAt (w : World) (d e : List (List UInt8)) (v : Value) (wr : World) : Prop where
 own : wr.ownsRow (w.heap.size + 2) 9 1 v d.length (texts d)
 r1 : Row wr w.heap.size 3 #[cnt e]
 r2 : Row wr (w.heap.size + 1) 3 #[room e]
 bel : Below w.heap.size w wr
 size : w.heap.size + 2 ≤ wr.heap.size
theorem NmAt.start (w : World) : NmAt w [] [] (.slice none 0 0) ((w.alloc (.cells #[.int .i64 6] 3)).alloc (.cells #[.int .i64 41] 3)) := by
 refine ⟨World.ownsRow_nil _ _ _ _, (Row.made w _ _).behindNew _, ?_, ((Below.refl _ w).alloc (Nat.le_refl _) _).alloc (by simp) _, by simp⟩
 have := Row.made (w.alloc (.cells #[.int .i64 6] 3)) 3 #[.int .i64 41]
 rw [show (w.alloc (.cells #[.int .i64 6] 3)).heap.size = w.heap.size + 1 from by simp] at this
 exact this
theorem NmAt.below {w w1 w2 : World} {d e : List (List UInt8)} {v : Value} (h : NmAt w d e v w1) (k : Below w1.heap.size w1 w2) : NmAt w d e v w2 :=
 ⟨Pth.own_at h.own (fun i hi => k.block i (h.own.lt _ hi).2), h.r1.below k h.r1.inHeap, h.r2.below k h.r2.inHeap, h.bel.trans (k.mono h.bel.size), Nat.le_trans h.size k.size⟩
theorem NmAt.cells {w w' : World} {d e : List (List UInt8)} {v : Value} (h : NmAt w d e v w') : Cells w' (NewIn w w') v (texts d) := Cells.ofOwn h.own (fun _ _ h1 h2 => ⟨by omega, h2⟩)
open Go.RowKit
theorem path_ok : PathOk where
 parent := pth_parent
open Go.RowKit
theorem flt_all (w : World) : Calls Tryz.prog 23 #[] w fun e w' => ∃ v', e = .returned v' ∧ Cls w' (NewIn w w') v' Flt.whole ∧ Below w.heap.size w w' := by
 go_enter Tryz.func23, Tryz.ntmps23
 go_wp2_with fail
 go_ret
 have hb : Below w.heap.size w (w.alloc (.cells #[.string ⟨#[]⟩, .int .i64 0, .int .i64 200] 87)) := (Below.refl _ _).alloc (Nat.le_refl _) _
 exact ⟨_, rfl, (cl_made w 87 [] 0 200).mono (fun i hi => ⟨by omega, by simp; omega⟩), hb⟩
open Go.RowKit Go.Shelf Go.Lib
instance : Inhabited Flt.Cl := ⟨⟨[], 0, 0⟩⟩
abbrev BCl := { c : Flt.Cl // Flt.Bd c }
instance : Inhabited BCl := ⟨⟨⟨[], 0, 0⟩, ⟨by simp, by unfold Go.Proofs.YtkcgmnhjofoeiaaGreat.Bd Flt.rg; simp⟩⟩⟩
open Go.RowKit
def txV (t : List UInt8) : List Value := [.string (mk t)]
theorem tx_one (t : List UInt8) : ∀ u ∈ txV t, u.oneCell' = true := by intro u hu; unfold txV at hu; rw [List.mem_singleton.1 hu]; rfl
abbrev Txs (w : World) (F : Nat → Prop) (v : Value) (l : List (List UInt8)) : Prop := Rws 1 txV w F v l
theorem Txs.cells {w : World} {F : Nat → Prop} {v : Value} {l : List (List UInt8)} (h : Txs w F v l) : Cells w F v (texts l) := by
 obtain ⟨A, c, rfl, hc, hat⟩ := h
 refine ⟨A, c, by rw [texts_len], by rw [texts_len]; exact hc, fun hp => ?_⟩
 rw [texts_len] at hp
 obtain ⟨b, o, rfl, h1, h2, h3⟩ := hat hp
 refine ⟨b, o, rfl, h1, h2, fun i u hu => ?_⟩
 unfold texts at hu
 rw [List.getElem?_map] at hu
 cases hx : l[i]? with
 | none => rw [hx] at hu; cases hu
 | some x =>
  rw [hx] at hu
  have := h3 i x hx 0 u (by simpa [txV] using hu)
  rw [Nat.mul_one] at this
  exact this
theorem Txs.at {w : World} {F : Nat → Prop} {b o : Nat} {n cap : Nat} {l : List (List UInt8)} (h : Txs w F (.slice (some ⟨b, o, none⟩) n cap) l) {i : Nat} {x : List UInt8} (hx : l[i]? = some x) : w.cell? ⟨b, o + i, none⟩ = some (.string (mk x)) := by
 obtain ⟨A, c, e, -, hat⟩ := h
 injection e with e1 e2 e3
 obtain ⟨b', o', e, -, -, hc⟩ := hat (by obtain ⟨hl, _⟩ := List.getElem?_eq_some_iff.1 hx; omega)
 rw [e] at e1
 injection e1 with e1
 injection e1 with e1 e2
 subst e1 e2
 have := hc i x hx 0 _ rfl
 rwa [Nat.mul_one] at this
theorem tx_made (w : World) (t : TypeId) (p : List UInt8) : Txs (w.alloc (.cells #[.string (mk p)] t)) (fun i => i = w.heap.size) (.slice (some ⟨w.heap.size, 0, none⟩) 1 1) [p] := by
 refine ⟨_, 1, rfl, Nat.le_refl _, fun _ => ⟨w.heap.size, 0, rfl, rfl, by simp, fun i x hx j u hu => ?_⟩⟩
 rw [(Row.made w _ _).at, Nat.zero_add]
 match i, hx with
 | 0, hx =>
  injection hx with hx
  subst hx
  match j, hu with
  | 0, hu => simpa [txV] using hu
theorem ins_cut : ∀ (l : List Flt.Tx) (k : Flt.Tx) (n : Nat), (∀ j x, j < n → l[j]? = some x → x < k) → (∀ x, l[n]? = some x → ¬ x < k) → n ≤ l.length → l.takeWhile (fun q => decide (q < k)) = l.take n ∧ l.dropWhile (fun q => decide (q < k)) = l.drop n
 | [], k, n, _, _, hn => by
  have : n = 0 := by simpa using hn
  subst this
  exact ⟨rfl, rfl⟩
 | y :: l, k, 0, _, h2, _ => by
  have hy := h2 y rfl
  exact ⟨by rw [List.takeWhile_cons, if_neg (by simpa using hy)]; rfl, by rw [List.dropWhile_cons, if_neg (by simpa using hy)]; rfl⟩
 | y :: l, k, n + 1, h1, h2, hn => by
  have hy := h1 0 y (by omega) rfl
  obtain ⟨r1, r2⟩ := ins_cut l k n (fun j x hj hx => h1 (j + 1) x (by omega) (by simpa using hx)) (fun x hx => h2 x (by simpa using hx)) (by simpa using hn)
  exact ⟨by rw [List.takeWhile_cons, if_pos (by simpa using hy), r1]; rfl, by rw [List.dropWhile_cons, if_pos (by simpa using hy), r2]; rfl⟩
theorem Flt.ins_at {l : List Flt.Tx} {k : Flt.Tx} {n : Nat} (h1 : ∀ j x, j < n → l[j]? = some x → x < k) (h2 : ∀ x, l[n]? = some x → ¬ x < k) (hn : n ≤ l.length) : Flt.ins l k = if l[n]? = some k then l else l.take n ++ [k] ++ l.drop n := by
 obtain ⟨r1, r2⟩ := ins_cut l k n h1 h2 hn
 unfold Flt.ins
 rw [r1, r2, List.head?_drop]
 simp
theorem Flt.prefixes_take {f : List Flt.Cl} {n : Nat} {c : Flt.Cl} (hc : f[n]? = some c) : Flt.prefixes (f.take (n + 1)) = Flt.ins (Flt.prefixes (f.take n)) c.pre := by
 obtain ⟨hl, he⟩ := List.getElem?_eq_some_iff.1 hc
 rw [List.take_succ_eq_append_getElem hl, he]
 unfold Flt.prefixes
 rw [List.foldl_append]
 rfl
theorem ref_prefixes {w : World} {F : Nat → Prop} {v : Value} {f : List Flt.Cl} (h : Cls w F v f) (hl : f.length ≤ 1000000) :
  Calls Tryz.prog 48 #[v] w fun e w' => ∃ v', e = .returned v' ∧ RowsOwn 9 1 txV w (Flt.prefixes f) v' w' := by
 obtain ⟨A, cap, rfl, hcap⟩ := h.parts
 obtain ⟨i0, hi0, hz0, hz1, hz2⟩ := info_parts strInfo
 have H := Lib.hid h
 have hl' : (f.length : Int) ≤ 1000000 := by omega
 clear h
 go_enter Tryz.func48, Tryz.ntmps48
 go_wp2_with fail
 go_loopw [3, 4, 5, 6, 7] (fun out i _ _ _ wr => ∃ n : Nat, n ≤ f.length ∧ i = .int .i64 (n : Int) ∧ RowsOwn 9 1 txV w (Flt.prefixes (f.take n)) out wr) (fun _ i _ _ _ _ => f.length - (intOf i).toNat)
 case atStart => exact ⟨0, Nat.zero_le _, rfl, RowsOwn.start _ _ _ w⟩
 case round =>
  obtain ⟨n, hn, rfl, hown⟩ := hrel
  by_cases hlt : n < f.length
  ·obtain ⟨b, o, cap', e, -, -, hb⟩ := H.out.block (by omega)
   injection e with e1 e2 e3
   subst e1 e3
   clear e2
   obtain ⟨x, hx⟩ : ∃ x, f[n]? = some x := ⟨_, List.getElem?_eq_getElem hlt⟩
   have hn0 : (0 : Int) ≤ (n : Int) := by omega
   have hn1 : (n : Int) < (f.length : Int) := by omega
   have CA : Hid (∀ W, Below w.heap.size w W → W.cell? ⟨b, o + n * 3, none⟩ = some (.string (mk x.pre)) ∧ W.cell? ⟨b, o + n * 3 + 1, none⟩ = some (.int .i64 x.lo) ∧ W.cell? ⟨b, o + n * 3 + 2, none⟩ = some (.int .i64 x.hi)) := Lib.hid (fun W hW => Cls.at (H.out.below hW) hx)
   obtain ⟨c0, -, -⟩ := CA.out wr hown.2
   have hst := Lib.hid (Flt.prefixes_take hx)
   have hlen : (Flt.prefixes (f.take n)).length ≤ n := Nat.le_trans (Flt.prefixes_len _) (Flt.len_take f)
   obtain ⟨p, x1, x2⟩ := x
   simp only at c0
   have hst : Hid (Flt.prefixes (f.take (n + 1)) = Flt.ins (Flt.prefixes (f.take n)) p) := hst
   clear CA hx
   generalize Flt.prefixes (f.take n) = D at *
   have Hn : Hid (n ≤ f.length) := Lib.hid hn
   have hDl : (D.length : Int) ≤ 1000000 := by omega
   have Hdl := Lib.hid hlen
   have Hmd := Lib.hid (fun W => tx_made W 9 p)
   have hbel1 := hown.2
   have Hbel := Lib.hid hbel1
   have h0own : (wr.alloc (.cells #[] 9)).ownsRow wr.heap.size 9 1 (.slice (some ⟨wr.heap.size, 0, none⟩) 0 0) 0 [] := World.ownsRow_made wr #[] 0 (Nat.le_refl _) (by decide) rfl
   rcases hown.1.2 with ⟨rfl, h0⟩ | ⟨g, cap2, cur, rfl, hg0, hgb, hgc, -, -, -⟩
   ·have hD0 : D = [] := List.eq_nil_of_length_eq_zero h0
    subst hD0
    have hfin : Hid (Flt.prefixes (f.take (n + 1)) = [] ++ [p] ++ []) := Lib.hid (by rw [hst.out]; rfl)
    have Hfront : Txs (wr.alloc (.cells #[] 9)) (fun _ => False) (.slice none 0 0) [] := Rws.none _ _ _
    have Htl : Hid (([] : List Flt.Tx).length = 0) := Lib.hid rfl
    have Hbl : Hid (([] : List Flt.Tx).length = 0) := Lib.hid rfl
    clear hown h0 hst hbel1
    generalize hps : mk p = ps at *
    have Hps := Lib.hid hps
    clear hps
    go_wp2_with fail
    refine wp_loop_rounds 1 ?_
    rw [rounds_succ]
    go_wp2_with (first
     | (at_builtin; refine wp_joins (f := txV) (k := 1) rfl _ _ 80 rfl wr.heap.size 9 i0 (.string ⟨#[]⟩) 16 Tryz.underlying80 hi0 hz0 hz1 hz2 rfl (by decide) rfl rfl F3o (Rws.none (k := 1) (f := txV) _ (fun _ => False) 0) (fun _ _ => rfl) (fun x _ => tx_one x) ?b1 ?b2 ?b3 ?_; (case b1 => (have := Htl.out; have := Hbl.out; simp only [List.length_append, List.length_cons, List.length_nil]; unfold maxLen; omega)); (case b2 => (have := Htl.out; have := Hbl.out; simp only [List.length_append, List.length_cons, List.length_nil]; omega)); (case b3 => omega); intro v4 w4 own4 hg4 _)
     | (at_builtin; refine wp_joins (f := txV) (k := 1) rfl _ _ 80 rfl wr.heap.size 9 i0 (.string ⟨#[]⟩) 16 Tryz.underlying80 hi0 hz0 hz1 hz2 rfl (by decide) rfl rfl (F2o.alloc _) (Hmd.out _) (fun _ _ => rfl) (fun x _ => tx_one x) ?c1 ?c2 ?c3 ?_; (case c1 => (have := Htl.out; simp only [List.length_cons, List.length_nil]; unfold maxLen; omega)); (case c2 => (have := Htl.out; simp only [List.length_cons, List.length_nil]; omega)); (case c3 => (first | omega | (simp; omega))); intro v3 w3 own3 hg3 _; have F3 := F2.more (x := p) (v' := v3) (by simpa [txV, Hps.out] using own3) hg3; have hs3 := F3.2.size; have F3o := F3.1)
     | (at_builtin; refine wp_joins (f := txV) (k := 1) rfl _ _ 80 rfl wr.heap.size 9 i0 (.string ⟨#[]⟩) 16 Tryz.underlying80 hi0 hz0 hz1 hz2 rfl (by decide) rfl rfl h0own Hfront (fun _ _ => rfl) (fun x _ => tx_one x) ?a1 ?a2 ?a3 ?_; (case a1 => (have := Htl.out; unfold maxLen; first | omega | (simp <;> omega))); (case a2 => (have := Htl.out; first | omega | (simp <;> omega))); (case a3 => simp); intro v2 w2 own2 hg2 _; have F2 := RowsOwn.front hg2 own2; have hs2 := F2.2.size; have F2o := F2.1))
    have F4 := F3.rest hg4 own4
    exact ⟨⟨n + 1, by omega, by go_num, by rw [hfin.out]; exact F4.since Hbel.out⟩, by show f.length - ((n : Int) + 1).toNat < f.length - (n : Int).toNat; omega⟩
   ·have Hown := Lib.hid hown
    have hgl : g < wr.heap.size := lt_of_block hgb
    clear hown hgb hbel1
    obtain ⟨W, rfl⟩ : ∃ W : World, W = wr := ⟨_, rfl⟩
    go_wp2_with fail
    go_loopw [6] (fun i w7 => ∃ k : Nat, k ≤ D.length ∧ i = .int .i64 (k : Int) ∧ (∀ j x, j < k → D[j]? = some x → x < p) ∧ w7 = W) (fun i _ => D.length - (intOf i).toNat)
    case atStart => exact ⟨0, Nat.zero_le _, rfl, (fun j x hj => absurd hj (by omega)), rfl⟩
    case round =>
     obtain ⟨k, hk, rfl, hlow, rfl⟩ := hrel
     have hk0 : (0 : Int) ≤ (k : Int) := by omega
     have hkD : (k : Int) ≤ (D.length : Int) := by omega
     have Hlow := Lib.hid hlow
     clear hlow
     by_cases hgo : ∃ x, D[k]? = some x ∧ x < p
     ·obtain ⟨x, hx, hxp⟩ := hgo
      have hlt2 : k < D.length := by obtain ⟨h, _⟩ := List.getElem?_eq_some_iff.1 hx; exact h
      have hk1 : (k : Int) < (D.length : Int) := by omega
      have d0 := Txs.at (Hown.out.rows (fun _ _ => rfl)) hx
      rw [Nat.zero_add] at d0
      have hb1 : Op.bytesLess (mk x).toList (mk p).toList = true := by rw [Proofs.bytesLess_eq, Lib.toList_data, Lib.toList_data]; exact decide_eq_true hxp
      have Hx := Lib.hid hx
      have Hk := Lib.hid hxp
      clear hx hxp Hmd
      generalize mk x = xs at *
      generalize mk p = ps at *
      go_wp2_with fail
      refine ⟨⟨k + 1, by omega, by go_num, fun j y hj hy => ?_, by first | rfl | trivial⟩, ?_⟩
      ·by_cases e : j = k
       ·rw [e, Hx.out] at hy
        injection hy with hy
        rw [← hy]; exact Hk.out
       ·exact Hlow.out j y (by omega) hy
      ·show D.length - ((k : Int) + 1).toNat < D.length - (k : Int).toNat
       omega
     ·have hins := Lib.hid (Flt.ins_at (n := k) Hlow.out (fun y hy hk => hgo ⟨y, hy, hk⟩) hk)
      by_cases hsame : D[k]? = some p
      ·have hlt2 : k < D.length := by obtain ⟨h, _⟩ := List.getElem?_eq_some_iff.1 hsame; exact h
       have hk1 : (k : Int) < (D.length : Int) := by omega
       have hkne : ¬ (k : Int) = (D.length : Int) := by omega
       have d0 := Txs.at (Hown.out.rows (fun _ _ => rfl)) hsame
       rw [Nat.zero_add] at d0
       have hb1 : Op.bytesLess (mk p).toList (mk p).toList = false := by rw [Proofs.bytesLess_eq]; exact decide_eq_false (List.lt_irrefl _)
       have es : ((mk p).toList == (mk p).toList) = true := beq_self_eq_true _
       have hfin : Hid (Flt.prefixes (f.take (n + 1)) = D) := Lib.hid (by rw [hst.out, hins.out, if_pos hsame])
       clear hins hgo hsame hst Hmd
       generalize mk p = ps at *
       go_wp2_with fail
       exact ⟨⟨n + 1, by have := Hn.out; omega, by go_num, by rw [hfin.out]; exact Hown.out⟩, by show f.length - ((n : Int) + 1).toNat < f.length - (n : Int).toNat; omega⟩
      ·have hcase : (∃ x1, wr.cell? ⟨g, k, none⟩ = some (.string x1) ∧ Op.bytesLess x1.toList (mk p).toList = false ∧ (x1.toList == (mk p).toList) = false ∧ (k : Int) < (D.length : Int) ∧ ¬ (k : Int) = (D.length : Int)) ∨ k = D.length := by
        by_cases hlt2 : k < D.length
        ·obtain ⟨x, hx⟩ : ∃ x, D[k]? = some x := ⟨_, List.getElem?_eq_getElem hlt2⟩
         have d0 := Txs.at (Hown.out.rows (fun _ _ => rfl)) hx
         rw [Nat.zero_add] at d0
         exact Or.inl ⟨_, d0, by rw [Proofs.bytesLess_eq, Lib.toList_data, Lib.toList_data]; exact decide_eq_false (fun h => hgo ⟨x, hx, h⟩), by rw [str_same]; exact decide_eq_false (fun e => hsame (by rw [hx, e])), by omega, by omega⟩
        ·exact Or.inr (by omega)
       have hfin : Hid (Flt.prefixes (f.take (n + 1)) = D.take k ++ [p] ++ D.drop k) := Lib.hid (by rw [hst.out, hins.out, if_neg hsame])
       have Hfront : Txs (wr.alloc (.cells #[] 9)) (NewIn w (wr.alloc (.cells #[] 9))) (.slice (some ⟨g, 0, none⟩) k cap2) (D.take k) := by
        have hb' : Below wr.heap.size wr (wr.alloc (.cells #[] 9)) := (Below.refl _ _).alloc (Nat.le_refl _) _
        have := ((Hown.out.rows (fun _ _ => rfl)).below hb').take rfl k hk cap2 (by omega)
        exact this.mono (fun i hi => ⟨hi.1, Nat.lt_of_lt_of_le hi.2 hb'.size⟩)
       have Htl : Hid ((D.take k).length = k) := Lib.hid (by rw [List.length_take]; omega)
       have Hback : Hid (∀ w', Below wr.heap.size wr w' → Txs w' (NewIn w w') (.slice (some ⟨g, k, none⟩) (D.length - k) (cap2 - k)) (D.drop k)) := Lib.hid (fun w' hw' => by
        have := ((Hown.out.rows (fun _ _ => rfl)).below hw').drop rfl k hk (cap2 - k) (by omega)
        rw [Nat.zero_add, Nat.mul_one] at this
        exact this.mono (fun i hi => ⟨hi.1, Nat.lt_of_lt_of_le hi.2 hw'.size⟩))
       have Hzero : Hid (k = D.length → ∀ A c w', Txs w' (NewIn w w') (.slice A 0 c) (D.drop k)) := Lib.hid (fun hh A c w' => by
        rw [List.drop_of_length_le (by omega)]
        exact Rws.empty _ _ _ _)
       have Hbl : Hid ((D.drop k).length = D.length - k) := Lib.hid List.length_drop
       clear hins hgo hsame hst
       generalize hps : mk p = ps at *
       have Hps := Lib.hid hps
       clear hps
       rcases hcase with ⟨x1, d0, hb1, es, hk1, hkne⟩ | rfl
       all_goals
        go_wp2_with (first
         | (at_builtin; refine wp_joins (f := txV) (k := 1) rfl _ _ 80 rfl wr.heap.size 9 i0 (.string ⟨#[]⟩) 16 Tryz.underlying80 hi0 hz0 hz1 hz2 rfl (by decide) rfl rfl F3o (Hback.out _ F3.2) (fun _ _ => rfl) (fun x _ => tx_one x) ?b1 ?b2 ?b3 ?_; (case b1 => (have := Htl.out; have := Hbl.out; simp only [List.length_append, List.length_cons, List.length_nil]; unfold maxLen; omega)); (case b2 => (have := Htl.out; have := Hbl.out; simp only [List.length_append, List.length_cons, List.length_nil]; omega)); (case b3 => omega); intro v4 w4 own4 hg4 _)
         | (at_builtin; refine wp_joins (f := txV) (k := 1) rfl _ _ 80 rfl wr.heap.size 9 i0 (.string ⟨#[]⟩) 16 Tryz.underlying80 hi0 hz0 hz1 hz2 rfl (by decide) rfl rfl F3o (Hzero.out rfl _ _ _) (fun _ _ => rfl) (fun x _ => tx_one x) ?b1 ?b2 ?b3 ?_; (case b1 => (have := Htl.out; have := Hbl.out; simp only [List.length_append, List.length_cons, List.length_nil]; unfold maxLen; omega)); (case b2 => (have := Htl.out; have := Hbl.out; simp only [List.length_append, List.length_cons, List.length_nil]; omega)); (case b3 => omega); intro v4 w4 own4 hg4 _)
         | (at_builtin; refine wp_joins (f := txV) (k := 1) rfl _ _ 80 rfl wr.heap.size 9 i0 (.string ⟨#[]⟩) 16 Tryz.underlying80 hi0 hz0 hz1 hz2 rfl (by decide) rfl rfl (F2o.alloc _) (Hmd.out _) (fun _ _ => rfl) (fun x _ => tx_one x) ?c1 ?c2 ?c3 ?_; (case c1 => (have := Htl.out; simp only [List.length_cons, List.length_nil]; unfold maxLen; omega)); (case c2 => (have := Htl.out; simp only [List.length_cons, List.length_nil]; omega)); (case c3 => (first | omega | (simp; omega))); intro v3 w3 own3 hg3 _; have F3 := F2.more (x := p) (v' := v3) (by simpa [txV, Hps.out] using own3) hg3; have hs3 := F3.2.size; have F3o := F3.1)
         | (at_builtin; refine wp_joins (f := txV) (k := 1) rfl _ _ 80 rfl wr.heap.size 9 i0 (.string ⟨#[]⟩) 16 Tryz.underlying80 hi0 hz0 hz1 hz2 rfl (by decide) rfl rfl h0own Hfront (fun _ _ => rfl) (fun x _ => tx_one x) ?a1 ?a2 ?a3 ?_; (case a1 => (have := Htl.out; unfold maxLen; first | omega | (simp <;> omega))); (case a2 => (have := Htl.out; first | omega | (simp <;> omega))); (case a3 => simp); intro v2 w2 own2 hg2 _; have F2 := RowsOwn.front hg2 own2; have hs2 := F2.2.size; have F2o := F2.1))
        all_goals
         have F4 := F3.rest hg4 own4
         exact ⟨⟨n + 1, by have := Hn.out; omega, by go_num, by rw [hfin.out]; exact F4.since Hbel.out⟩, by show f.length - ((n : Int) + 1).toNat < f.length - (n : Int).toNat; omega⟩
  ·obtain rfl : n = f.length := by omega
   rw [List.take_length] at hown
   have Hown := Lib.hid hown
   clear hown
   go_wp2_with fail
   go_ret
   exact ⟨_, rfl, Hown.out⟩
open Go.RowKit Go.Shelf Go.Lib Go.Sort
theorem cmp_lt : ∀ (a b : List UInt8), decide (Lib.compareBytes a b < 0) = decide (a < b)
 | [], [] => by simp [Lib.compareBytes]
 | [], _ :: _ => by simp [Lib.compareBytes]
 | _ :: _, [] => by simp [Lib.compareBytes]
 | x :: a, y :: b => by
  unfold Lib.compareBytes
  by_cases h : x < y
  ·simp [h, List.cons_lt_cons_iff]
  ·by_cases h2 : y < x
   ·have hne : ¬ x = y := fun e => h (by rw [e] at h2; exact absurd h2 (UInt8.lt_irrefl _))
    simp [h, h2, List.cons_lt_cons_iff, hne]
   ·have e : x = y := UInt8.le_antisymm (UInt8.not_lt.1 h2) (UInt8.not_lt.1 h)
    subst e
    have ih := cmp_lt a b
    rw [if_neg h, if_neg h, ih]
    simp [List.cons_lt_cons_iff, h]
def cmpPre (x y : Flt.Cl) : Int := Lib.compareBytes x.pre y.pre
theorem lt_pre (x y : Flt.Cl) : ltOf cmpPre x y = decide (x.pre < y.pre) := cmp_lt x.pre y.pre
theorem swo_pre : SWO (ltOf cmpPre) where
 irrefl x := by rw [lt_pre]; exact decide_eq_false (List.lt_irrefl _)
 trans x y z h1 h2 := by
  rw [lt_pre] at *
  exact decide_eq_true (List.lt_trans (of_decide_eq_true h1) (of_decide_eq_true h2))
 ntrans x y z h1 h2 := by
  rw [lt_pre] at *
  have k1 := of_decide_eq_false h1
  have k2 := of_decide_eq_false h2
  refine decide_eq_false (fun h => ?_)
  have a1 : y.pre ≤ x.pre := List.not_lt.1 k1
  have a2 : z.pre ≤ y.pre := List.not_lt.1 k2
  exact absurd h (List.not_lt.2 (List.le_trans a2 a1))
theorem asc_cmp (x y : Flt.Cl) (W : World) : Calls Tryz.prog 142 #[.agg #[.string (mk x.pre), .int .i64 x.lo, .int .i64 x.hi], .agg #[.string (mk y.pre), .int .i64 y.lo, .int .i64 y.hi]] W fun e w' => e = .returned (.int .i64 (cmpPre x y)) ∧ ∃ q os', w' = grow (W.drewN q) os' := by
 have hcon := fun W' => Tryz.strings_Compare (mk x.pre) (mk y.pre) W'
 simp only [mk_data] at hcon
 obtain ⟨xp, x1, x2⟩ := x
 obtain ⟨yp, y1, y2⟩ := y
 unfold cmpPre
 simp only at hcon ⊢
 generalize Lib.compareBytes xp yp = r at hcon ⊢
 have HC := Lib.hid hcon
 clear hcon
 generalize mk xp = xs at *
 generalize mk yp = ys at *
 go_enter Tryz.func142, Tryz.ntmps142
 go_wp2_with (go_at_call 143; refine (HC.out _).mono ?_; rintro e w' ⟨rfl, rfl⟩)
 go_ret
 exact ⟨rfl, 0, _, by rw [alloc_eq_grow, alloc_eq_grow, grow_grow]; rfl⟩
theorem clone_any {w : World} {F : Nat → Prop} {v : Value} {f : List Flt.Cl} (h : Cls w F v f) (hl : f.length ≤ 100000) :
  Calls Tryz.prog 95 #[v] w fun e w' => ∃ v', e = .returned v' ∧ RowsOwn 87 3 clV w f v' w' := by
 obtain ⟨i0, hi0, hz0, hz1, hz2⟩ := info_parts clauseInfo
 have hb0 : Below w.heap.size w (w.alloc (.cells #[] 87)) := (Below.refl _ _).alloc (Nat.le_refl _) _
 have hr := h.below hb0
 have h0own : (w.alloc (.cells #[] 87)).ownsRow w.heap.size 87 3 (.slice (some ⟨w.heap.size, 0, none⟩) 0 0) 0 [] := World.ownsRow_made w #[] 0 (Nat.le_refl _) (by decide) rfl
 obtain ⟨A, cap, rfl, hcap, hat⟩ := h
 have q22 : ∀ (w : World) (a : Option Addr) (n c n' c' : Nat), (binOp .eql 26 (.slice a n c) (.slice none n' c')).run Tryz.prog w = .ok (.bool a.isNone) w := fun w a n c n' c' => Lib.run_eql_slice_nil w _ _ a n c n' c' Tryz.underlying26
 cases A with
 | none =>
  have h0 : f.length = 0 := Nat.eq_zero_of_not_pos (fun hp => by obtain ⟨b, o, e, -⟩ := hat hp; cases e)
  have hf : f = [] := List.eq_nil_of_length_eq_zero h0
  subst hf
  clear hr hat
  go_enter Tryz.func95, Tryz.ntmps95
  go_wp2_with fail
  go_ret
  exact ⟨_, rfl, RowsOwn.start _ _ _ w⟩
 | some ad =>
  clear hat
  go_enter Tryz.func95, Tryz.ntmps95
  go_wp2_with (at_builtin; refine wp_joins (f := clV) (k := 3) rfl _ _ 26 rfl w.heap.size 87 i0 (.agg #[.string ⟨#[]⟩, .int .i64 0, .int .i64 0]) 32 Tryz.underlying26 hi0 hz0 hz1 hz2 rfl (by decide) rfl rfl h0own hr (fun _ _ => rfl) (fun x _ => cl_one x) ?a1 ?a2 ?a3 ?_)
  case a1 => unfold maxLen; omega
  case a2 => omega
  case a3 => simp
  intro v2 w2 own2 hg2 _
  have F2 := Lib.hid (RowsOwn.front hg2 (by rw [Nat.zero_add, List.nil_append]; exact own2))
  clear own2 hg2 hr h0own
  go_wp2_with fail
  go_ret
  exact ⟨_, rfl, F2.out⟩
theorem asc_sort {w wr : World} {v : Value} {l : List Flt.Cl} (h : RowsOwn 87 3 clV w l v wr) (hl : l.length ≤ 1000000) :
  Calls Tryz.prog 141 #[v, .func (.func 142) #[] #[]] wr fun e w' => e = .returned (.tuple #[]) ∧ ∃ S : List Flt.Cl, RowsOwn 87 3 clV w S v w' ∧ S.Perm l ∧ ∀ (i j : Nat) (x y : Flt.Cl), i < j → S[i]? = some x → S[j]? = some y → ¬ y.pre < x.pre := by
 rcases Nat.eq_zero_or_pos l.length with h0 | h0
 ·have hl0 : l = [] := List.eq_nil_of_length_eq_zero h0
  subst hl0
  obtain ⟨A, cap, e, -⟩ := (h.rows (fun _ _ => rfl)).parts
  rw [List.length_nil] at e
  subst e
  refine (AnyF.slices_SortFunc_none (P := Tryz.prog) (ρ := Tryz.sortCl_ren) { Tryz.sortCl with } A cap _ wr).mono ?_
  rintro e w' ⟨rfl, rfl⟩
  exact ⟨rfl, [], h, List.Perm.refl _, fun i j x y _ hx _ => by simp at hx⟩
 ·obtain ⟨g, cap, rfl, hg0, hgl⟩ := h.1.form (by omega)
  have eg : ∀ args w, (callFunc 142 args).run Tryz.prog w = .ok (.enter 142 args) w := enters_of Tryz.func142 (by kernel_rfl) rfl
  have hcon := AnyQ.slices_SortFunc Tryz.sortCl 3 Tryz.isAgg87 Tryz.sizeOf87 clV cl_len cl_one cmpPre swo_pre 142 #[] g 0 cap l.toArray wr eg (fun _ _ _ _ x y => asc_cmp x y _) (own_holds cl_len (by decide) h.1) hgl (by simp; omega)
  refine hcon.mono ?_
  rintro e w' ⟨rfl, d, n, os, hp, hs, rfl⟩
  obtain ⟨hperm, hsz⟩ := perm_list hp
  refine ⟨rfl, d.toList, h.sorted cl_len (by decide) hsz, hperm, fun i j x y hij hx hy => ?_⟩
  rw [Array.getElem?_toList] at hx hy
  obtain ⟨hi, ex⟩ := Array.getElem?_eq_some_iff.1 hx
  obtain ⟨hj, ey⟩ := Array.getElem?_eq_some_iff.1 hy
  have hlt := hs i j (Nat.zero_le _) hij (by simpa [hsz] using hj)
  rw [lt_pre, getElem!_pos d i hi, getElem!_pos d j hj, ex, ey] at hlt
  exact of_decide_eq_false hlt
theorem flt_asc {w : World} {F : Nat → Prop} {v : Value} {f : List Flt.Cl} (h : Cls w F v f) (hl : f.length ≤ 100000) :
  Calls Tryz.prog 120 #[v] w fun e w' => ∃ v' S, e = .returned v' ∧ RowsOwn 87 3 clV w S v' w' ∧ S.Perm f ∧ ∀ (i j : Nat) (x y : Flt.Cl), i < j → S[i]? = some x → S[j]? = some y → ¬ y.pre < x.pre := by
 have C := Lib.hid (clone_any h hl)
 have SO := Lib.hid (fun (A B : World) (x : Value) (hx : RowsOwn 87 3 clV A f x B) => asc_sort hx (by omega))
 clear h
 go_enter Tryz.func120, Tryz.ntmps120
 go_wp2_with fail
 refine (C.out).mono ?_
 rintro e w1 ⟨x, rfl, hx⟩
 have HX := Lib.hid hx
 clear hx
 go_wp2_with fail
 refine (SO.out _ _ _ HX.out).mono ?_
 rintro e w2 ⟨rfl, S, hS, hperm, hup⟩
 have HS := Lib.hid hS
 have HP := Lib.hid hperm
 have HU := Lib.hid hup
 clear hS hperm hup
 go_wp2_with fail
 go_ret
 exact ⟨_, S, rfl, HS.out, HP.out, HU.out⟩
theorem encStr_tx (l : List (List UInt8)) : l.flatMap txV = l.map encStr := by
 induction l with
 | nil => rfl
 | cons x l ih => rw [List.flatMap_cons, ih]; rfl
theorem sort_texts {w wr : World} {v : Value} {l : List (List UInt8)} (h : RowsOwn 9 1 txV w l v wr) (hl : l.length ≤ 1000000) :
  Calls Tryz.prog 122 #[v] wr fun e w' => e = .returned (.tuple #[]) ∧ RowsOwn 9 1 txV w (l.mergeSort fun x y => decide (x ≤ y)) v w' := by
 rcases h.1.2 with ⟨rfl, h0⟩ | ⟨g, cap, cur, rfl, hg0, hgb, hgc, hm, hs, ht⟩
 ·have hl0 : l = [] := List.eq_nil_of_length_eq_zero h0
  subst hl0
  refine (Any.slices_Sort_string_none Tryz.lays190 none 0 wr).mono ?_
  rintro e w' ⟨rfl, rfl⟩
  exact ⟨rfl, by simpa using h⟩
 ·have hb9 : g < wr.heap.size := (Array.getElem?_eq_some_iff.1 hgb).1
  refine (Tryz.slices_Sort_string g 0 cap l wr (holds_of_block hgb (by rw [Nat.mul_one, encStr_tx] at ht; exact ht)) hb9 (by omega)).mono ?_
  rintro e w' ⟨rfl, n, os, rfl⟩
  have hl9 : (l.mergeSort fun x y => decide (x ≤ y)).length = l.length := List.length_mergeSort _
  refine ⟨rfl, ?_, h.2.grown (grownBy_sorted _) h.2.size (fun k hk => by injection hk with hk; omega)⟩
  have ho := ownsRow_sorted (w := wr) (base := w.heap.size) (n := n) (os := os) (ts := l.mergeSort fun x y => decide (x ≤ y)) hl9 hg0 hgb hgc hm (by rw [hs])
  rw [hl9, encStr_tx]
  exact ho
theorem compact_texts {w wr : World} {v : Value} {l : List (List UInt8)} (h : RowsOwn 9 1 txV w l v wr) (hl : l.length ≤ 1000000) (hc : (Lib.compact l).length ≤ l.length) :
  Calls Tryz.prog 123 #[v] wr fun e w' => ∃ v', e = .returned v' ∧ Txs w' (NewIn w w') v' (Lib.compact l) ∧ Below w.heap.size w w' := by
 rcases h.1.2 with ⟨rfl, h0⟩ | ⟨g, cap, cur, rfl, hg0, hgb, hgc, hm, hs, ht⟩
 ·have hl0 : l = [] := List.eq_nil_of_length_eq_zero h0
  subst hl0
  refine (Tryz.slices_Compact_string_empty none 0 wr).mono ?_
  rintro e w' ⟨rfl, rfl⟩
  exact ⟨_, rfl, Rws.none _ _ _, h.2⟩
 ·refine (Tryz.slices_Compact_string g 0 cap l wr (holds_of_block hgb (by rw [Nat.mul_one, encStr_tx] at ht; exact ht)) (by omega) hgc).mono ?_
  rintro e w' ⟨rfl, q, rfl⟩
  have hlen : (Lib.compact l ++ List.replicate (l.length - (Lib.compact l).length) []).length = l.length := by rw [List.length_append, List.length_replicate]; omega
  have ho := ownsRow_sorted (w := wr) (base := w.heap.size) (n := q) (os := #[]) (ts := Lib.compact l ++ List.replicate (l.length - (Lib.compact l).length) []) (ss := l) hlen hg0 hgb hgc hm (by rw [hs])
  have hgr := grownBy_sorted (w := wr) (g := g) (n := q) (os := #[]) (Lib.compact l ++ List.replicate (l.length - (Lib.compact l).length) []).toArray
  have hgz : ∀ W : World, grow W #[] = W := fun W => by unfold grow; simp
  rw [hgz] at ho hgr
  have hR : RowsOwn 9 1 txV w (Lib.compact l ++ List.replicate (l.length - (Lib.compact l).length) []) (.slice (some ⟨g, 0, none⟩) l.length cap) (putRow encStr (Sort.ahead wr q) g 0 (Lib.compact l ++ List.replicate (l.length - (Lib.compact l).length) []).toArray) :=
   ⟨by rw [hlen, encStr_tx]; exact ho, h.2.grown hgr h.2.size (fun k hk => by injection hk with hk; omega)⟩
  have hrows := hR.rows (fun _ _ => rfl)
  have ht := hrows.take (by rw [hlen]) (Lib.compact l).length (by rw [hlen]; exact hc) cap (by omega)
  rw [List.take_left'  rfl] at ht
  exact ⟨_, rfl, ht, hR.2⟩
theorem pre_take {f : List Flt.Cl} {n : Nat} {c : Flt.Cl} (hc : f[n]? = some c) : (f.take (n + 1)).map (·.pre) = (f.take n).map (·.pre) ++ [c.pre] := by
 obtain ⟨hl, he⟩ := List.getElem?_eq_some_iff.1 hc
 rw [List.take_succ_eq_append_getElem hl, he, List.map_append]
 rfl
theorem flt_prefixes {w : World} {F : Nat → Prop} {v : Value} {f : List Flt.Cl} (h : Cls w F v f) (hl : f.length ≤ 100000) :
  Calls Tryz.prog 100 #[v] w fun e w' => ∃ v', e = .returned v' ∧ Txs w' (NewIn w w') v' (Flt.prefixes f) ∧ Below w.heap.size w w' := by
 obtain ⟨A, cap, rfl, hcap⟩ := h.parts
 obtain ⟨i0, hi0, hz0, hz1, hz2⟩ := info_parts strInfo
 have H := Lib.hid h
 have hl' : (f.length : Int) ≤ 100000 := by omega
 have SO : Hid (∀ (B : World) (x : Value), RowsOwn 9 1 txV w (f.map (·.pre)) x B → Calls Tryz.prog 122 #[x] B fun e w' => e = .returned (.tuple #[]) ∧ RowsOwn 9 1 txV w ((f.map (·.pre)).mergeSort fun x y => decide (x ≤ y)) x w') := Lib.hid (fun B x hx => sort_texts hx (by rw [List.length_map]; omega))
 have CO : Hid (∀ (B : World) (x : Value), RowsOwn 9 1 txV w ((f.map (·.pre)).mergeSort fun x y => decide (x ≤ y)) x B → Calls Tryz.prog 123 #[x] B fun e w' => ∃ v', e = .returned v' ∧ Txs w' (NewIn w w') v' (Flt.prefixes f) ∧ Below w.heap.size w w') := Lib.hid (fun B x hx => by
  have := compact_texts hx (by rw [List.length_mergeSort, List.length_map]; omega) (by rw [Flt.prefixes_sorted, List.length_mergeSort, List.length_map]; exact Flt.prefixes_len f)
  rwa [Flt.prefixes_sorted] at this)
 clear h
 go_enter Tryz.func100, Tryz.ntmps100
 go_wp2_with fail
 go_loopw [3, 5, 8] (fun out _ i wr => ∃ n : Nat, n ≤ f.length ∧ i = .int .i64 (n : Int) ∧ RowsOwn 9 1 txV w ((f.take n).map (·.pre)) out wr) (fun _ _ i _ => f.length - (intOf i).toNat)
 case atStart => exact ⟨0, Nat.zero_le _, rfl, RowsOwn.start _ _ _ w⟩
 case round =>
  obtain ⟨n, hn, rfl, hown⟩ := hrel
  by_cases hlt : n < f.length
  ·obtain ⟨b, o, cap', e, -, -, hb⟩ := H.out.block (by omega)
   injection e with e1 e2 e3
   subst e1 e3
   clear e2
   obtain ⟨x, hx⟩ : ∃ x, f[n]? = some x := ⟨_, List.getElem?_eq_getElem hlt⟩
   have hn0 : (0 : Int) ≤ (n : Int) := by omega
   have hn1 : (n : Int) < (f.length : Int) := by omega
   have CA : Hid (∀ W, Below w.heap.size w W → W.cell? ⟨b, o + n * 3, none⟩ = some (.string (mk x.pre)) ∧ W.cell? ⟨b, o + n * 3 + 1, none⟩ = some (.int .i64 x.lo) ∧ W.cell? ⟨b, o + n * 3 + 2, none⟩ = some (.int .i64 x.hi)) := Lib.hid (fun W hW => Cls.at (H.out.below hW) hx)
   obtain ⟨c0, c1, c2⟩ := CA.out wr hown.2
   have hst := Lib.hid (pre_take hx)
   have hlen3 : ((f.take n).map (·.pre)).length ≤ n := by rw [List.length_map]; exact Flt.len_take f
   obtain ⟨xp, x1, x2⟩ := x
   simp only at c0 c1 c2
   have hst : Hid ((f.take (n + 1)).map (·.pre) = (f.take n).map (·.pre) ++ [xp]) := hst
   have hba : Below wr.heap.size wr (wr.alloc (.cells #[.string (mk xp), .int .i64 x1, .int .i64 x2] 87)) := (Below.refl _ _).alloc (Nat.le_refl _) _
   have Hown := Lib.hid (hown.below hba)
   clear hown hx hba CA
   generalize (f.take n).map (·.pre) = out at *
   have Hown2 := Hown
   have hown3 := Hown2.out.1.alloc (.cells #[.string (mk xp)] 9)
   have hmade := tx_made (wr.alloc (.cells #[.string (mk xp), .int .i64 x1, .int .i64 x2] 87)) 9 xp
   have hz1 : (wr.alloc (.cells #[.string (mk xp), .int .i64 x1, .int .i64 x2] 87)).heap.size = wr.heap.size + 1 := by simp
   rw [hz1] at hmade
   have hsz3 : w.heap.size ≤ ((wr.alloc (.cells #[.string (mk xp), .int .i64 x1, .int .i64 x2] 87)).alloc (.cells #[.string (mk xp)] 9)).heap.size := by have := Hown2.out.2.size; simp at this ⊢; omega
   clear hz1
   go_wp2_with (at_builtin; refine wp_joins (f := txV) (k := 1) rfl _ _ 80 rfl w.heap.size 9 i0 (.string ⟨#[]⟩) 16 Tryz.underlying80 hi0 hz0 hz1 hz2 rfl (by decide) rfl rfl hown3 hmade (fun _ _ => rfl) (fun x _ => tx_one x) ?c3 ?c4 hsz3 ?_)
   case c3 => unfold maxLen; first | omega | (simp <;> omega)
   case c4 => first | omega | (simp <;> omega)
   intro v3 w3 h1 h2 _
   have hnew := Lib.hid (Hown2.out.more (x := xp) (v' := v3) (by simpa [txV] using h1) h2)
   clear h1 h2 hown3 hmade
   go_wp2_with fail
   exact ⟨⟨n + 1, by omega, by go_num, by rw [hst.out]; exact hnew.out⟩, by show f.length - ((n : Int) + 1).toNat < f.length - (n : Int).toNat; omega⟩
  ·obtain rfl : n = f.length := by omega
   rw [List.take_length] at hown
   have Hown := Lib.hid hown
   clear hown
   go_wp2_with fail
   refine (SO.out _ _ Hown.out).mono ?_
   rintro e w2 ⟨rfl, hs⟩
   have HS := Lib.hid hs
   clear hs
   go_wp2_with fail
   refine (CO.out _ _ HS.out).mono ?_
   rintro e w3 ⟨v3, rfl, hv3, hb3⟩
   have HV := Lib.hid hv3
   have HB := Lib.hid hb3
   clear hv3 hb3
   go_wp2_with fail
   go_ret
   exact ⟨_, rfl, HV.out, HB.out⟩
end Go.Proofs.YtkcgmnhjofoeiaaGreat
