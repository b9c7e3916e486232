/- The landed filter: clauses by ascending prefixes; the prefixes, each once. -/
import Derived.Test.YtabnfaonlkipbaaGreatDoorCom22
import Derived.Test.YtabnfaonlkipbaaGreatDoorCom13
import Derived.Test.YtabnfaonlkipbaaGreatDoorCom20
import Derived.Test.YtabnfaonlkipbaaGreatDoorCom7
import Derived.Shelf.SlSortCmp.NoneTotal
import Derived.Shelf.Slices.In.SortNone
import Derived.Sort.OwnSorted
import Derived.Great.Walk
import Derived.WalkMore
set_option linter.unusedSimpArgs false
set_option linter.unusedVariables false
namespace Go.Proofs.YtabnfaonlkipbaaGreatDoor
open Go.RowKit Go.Shelf Go.Lib Go.Sort

set_option maxRecDepth 100000 in
theorem cmp_lt : ∀ (a b : List UInt8), decide (Lib.compareBytes a b < 0) = decide (a < b)
  | [], [] => by simp [Lib.compareBytes]
  | [], _ :: _ => by simp [Lib.compareBytes]
  | _ :: _, [] => by simp [Lib.compareBytes]
  | x :: a, y :: b => by
    unfold Lib.compareBytes
    by_cases h : x < y
    · simp [h, List.cons_lt_cons_iff]
    · by_cases h2 : y < x
      · have hne : ¬ x = y := fun e => h (by rw [e] at h2; exact absurd h2 (UInt8.lt_irrefl _))
        simp [h, h2, List.cons_lt_cons_iff, hne]
      · have e : x = y := UInt8.le_antisymm (UInt8.not_lt.1 h2) (UInt8.not_lt.1 h)
        subst e
        have ih := cmp_lt a b
        rw [if_neg h, if_neg h, ih]
        simp [List.cons_lt_cons_iff, h]
def cmpPre (x y : Flt.Cl) : Int := Lib.compareBytes x.pre y.pre
set_option maxRecDepth 100000 in
theorem lt_pre (x y : Flt.Cl) : ltOf cmpPre x y = decide (x.pre < y.pre) := cmp_lt x.pre y.pre
set_option maxRecDepth 100000 in
theorem swo_pre : SWO (ltOf cmpPre) where
  irrefl x := by rw [lt_pre]; exact decide_eq_false (List.lt_irrefl _)
  trans x y z h1 h2 := by
    rw [lt_pre] at *
    exact decide_eq_true (List.lt_trans (of_decide_eq_true h1) (of_decide_eq_true h2))
  ntrans x y z h1 h2 := by
    rw [lt_pre] at *
    have k1 := of_decide_eq_false h1
    have k2 := of_decide_eq_false h2
    refine decide_eq_false (fun h => ?_)
    have a1 : y.pre ≤ x.pre := List.not_lt.1 k1
    have a2 : z.pre ≤ y.pre := List.not_lt.1 k2
    exact absurd h (List.not_lt.2 (List.le_trans a2 a1))

set_option maxRecDepth 100000 in
set_option maxHeartbeats 1000000 in
theorem asc_cmp (x y : Flt.Cl) (W : World) : Calls Tryz.prog 89 #[.agg #[.string (mk x.pre), .int .i64 x.lo, .int .i64 x.hi], .agg #[.string (mk y.pre), .int .i64 y.lo, .int .i64 y.hi]] W fun e w' => e = .returned (.int .i64 (cmpPre x y)) ∧ ∃ q os', w' = grow (W.drewN q) os' := by
  have hcon := fun W' => Tryz.strings_Compare (mk x.pre) (mk y.pre) W'
  simp only [mk_data] at hcon
  obtain ⟨xp, x1, x2⟩ := x
  obtain ⟨yp, y1, y2⟩ := y
  unfold cmpPre
  simp only at hcon ⊢
  generalize Lib.compareBytes xp yp = r at hcon ⊢
  have HC := Lib.hid hcon
  clear hcon
  generalize mk xp = xs at *
  generalize mk yp = ys at *
  go_enter Tryz.func89, Tryz.ntmps89
  go_wp2_with (go_at_call 90; refine (HC.out _).mono ?_; rintro e w' ⟨rfl, rfl⟩)
  go_ret
  exact ⟨rfl, 0, _, by rw [alloc_eq_grow, alloc_eq_grow, grow_grow]; rfl⟩

set_option maxRecDepth 100000 in
/-- A slice of clauses, copied. -/
theorem clone_any {w : World} {F : Nat → Prop} {v : Value} {f : List Flt.Cl} (h : Cls w F v f) (hl : f.length ≤ 100000) :
    Calls Tryz.prog 87 #[v] w fun e w' => ∃ v', e = .returned v' ∧ RowsOwn 42 3 clV w f v' w' := by
  obtain ⟨i0, hi0, hz0, hz1, hz2⟩ := info_parts clauseInfo
  have hb0 : Below w.heap.size w (w.alloc (.cells #[] 42)) := (Below.refl _ _).alloc (Nat.le_refl _) _
  have hr := h.below hb0
  have h0own : (w.alloc (.cells #[] 42)).ownsRow w.heap.size 42 3 (.slice (some ⟨w.heap.size, 0, none⟩) 0 0) 0 [] := World.ownsRow_made w #[] 0 (Nat.le_refl _) (by decide) rfl
  obtain ⟨A, cap, rfl, hcap, hat⟩ := h
  have q22 : ∀ (w : World) (a : Option Addr) (n c n' c' : Nat), (binOp .eql 22 (.slice a n c) (.slice none n' c')).run Tryz.prog w = .ok (.bool a.isNone) w := fun w a n c n' c' => Lib.run_eql_slice_nil w _ _ a n c n' c' Tryz.underlying22
  cases A with
  | none =>
    have h0 : f.length = 0 := Nat.eq_zero_of_not_pos (fun hp => by obtain ⟨b, o, e, -⟩ := hat hp; cases e)
    have hf : f = [] := List.eq_nil_of_length_eq_zero h0
    subst hf
    clear hr hat
    go_enter Tryz.func87, Tryz.ntmps87
    go_wp2_with fail
    go_ret
    exact ⟨_, rfl, RowsOwn.start _ _ _ w⟩
  | some ad =>
    clear hat
    go_enter Tryz.func87, Tryz.ntmps87
    go_wp2_with (at_builtin; refine wp_joins (f := clV) (k := 3) rfl _ _ 22 rfl w.heap.size 42 i0 (.agg #[.string ⟨#[]⟩, .int .i64 0, .int .i64 0]) 32 Tryz.underlying22 hi0 hz0 hz1 hz2 rfl (by decide) rfl rfl h0own hr (fun _ _ => rfl) (fun x _ => cl_one x) ?a1 ?a2 ?a3 ?_)
    case a1 => unfold maxLen; omega
    case a2 => omega
    case a3 => simp
    intro v2 w2 own2 hg2 _
    have F2 := Lib.hid (RowsOwn.front hg2 (by rw [Nat.zero_add, List.nil_append]; exact own2))
    clear own2 hg2 hr h0own
    go_wp2_with fail
    go_ret
    exact ⟨_, rfl, F2.out⟩

set_option maxRecDepth 100000 in
theorem asc_sort {w wr : World} {v : Value} {l : List Flt.Cl} (h : RowsOwn 42 3 clV w l v wr) (hl : l.length ≤ 1000000) :
    Calls Tryz.prog 88 #[v, .func (.func 89) #[] #[]] wr fun e w' => e = .returned (.tuple #[]) ∧ ∃ S : List Flt.Cl, RowsOwn 42 3 clV w S v w' ∧ S.Perm l ∧ ∀ (i j : Nat) (x y : Flt.Cl), i < j → S[i]? = some x → S[j]? = some y → ¬ y.pre < x.pre := by
  rcases Nat.eq_zero_or_pos l.length with h0 | h0
  · have hl0 : l = [] := List.eq_nil_of_length_eq_zero h0
    subst hl0
    obtain ⟨A, cap, e, -⟩ := (h.rows (fun _ _ => rfl)).parts
    rw [List.length_nil] at e
    subst e
    refine (AnyF.slices_SortFunc_none (P := Tryz.prog) (ρ := Tryz.sortCl_ren) { Tryz.sortCl with } A cap _ wr).mono ?_
    rintro e w' ⟨rfl, rfl⟩
    exact ⟨rfl, [], h, List.Perm.refl _, fun i j x y _ hx _ => by simp at hx⟩
  · obtain ⟨g, cap, rfl, hg0, hgl⟩ := h.1.form (by omega)
    have eg : ∀ args w, (callFunc 89 args).run Tryz.prog w = .ok (.enter 89 args) w := enters_of Tryz.func89 (by kernel_rfl) rfl
    have hcon := AnyQ.slices_SortFunc Tryz.sortCl 3 Tryz.isAgg42 Tryz.sizeOf42 clV cl_len cl_one cmpPre swo_pre 89 #[] g 0 cap l.toArray wr eg (fun _ _ _ _ x y => asc_cmp x y _) (own_holds cl_len (by decide) h.1) hgl (by simp; omega)
    refine hcon.mono ?_
    rintro e w' ⟨rfl, d, n, os, hp, hs, rfl⟩
    obtain ⟨hperm, hsz⟩ := perm_list hp
    refine ⟨rfl, d.toList, h.sorted cl_len (by decide) hsz, hperm, fun i j x y hij hx hy => ?_⟩
    rw [Array.getElem?_toList] at hx hy
    obtain ⟨hi, ex⟩ := Array.getElem?_eq_some_iff.1 hx
    obtain ⟨hj, ey⟩ := Array.getElem?_eq_some_iff.1 hy
    have hlt := hs i j (Nat.zero_le _) hij (by simpa [hsz] using hj)
    rw [lt_pre, getElem!_pos d i hi, getElem!_pos d j hj, ex, ey] at hlt
    exact of_decide_eq_false hlt

set_option maxRecDepth 100000 in
theorem flt_asc {w : World} {F : Nat → Prop} {v : Value} {f : List Flt.Cl} (h : Cls w F v f) (hl : f.length ≤ 100000) :
    Calls Tryz.prog 65 #[v] w fun e w' => ∃ v' S, e = .returned v' ∧ RowsOwn 42 3 clV w S v' w' ∧ S.Perm f ∧ ∀ (i j : Nat) (x y : Flt.Cl), i < j → S[i]? = some x → S[j]? = some y → ¬ y.pre < x.pre := by
  have C := Lib.hid (clone_any h hl)
  have SO := Lib.hid (fun (A B : World) (x : Value) (hx : RowsOwn 42 3 clV A f x B) => asc_sort hx (by omega))
  clear h
  go_enter Tryz.func65, Tryz.ntmps65
  go_wp2_with fail
  refine (C.out).mono ?_
  rintro e w1 ⟨x, rfl, hx⟩
  have HX := Lib.hid hx
  clear hx
  go_wp2_with fail
  refine (SO.out _ _ _ HX.out).mono ?_
  rintro e w2 ⟨rfl, S, hS, hperm, hup⟩
  have HS := Lib.hid hS
  have HP := Lib.hid hperm
  have HU := Lib.hid hup
  clear hS hperm hup
  go_wp2_with fail
  go_ret
  exact ⟨_, S, rfl, HS.out, HP.out, HU.out⟩

/-! ### The prefixes -/
set_option maxRecDepth 100000 in
theorem encStr_tx (l : List (List UInt8)) : l.flatMap txV = l.map encStr := by
  induction l with
  | nil => rfl
  | cons x l ih => rw [List.flatMap_cons, ih]; rfl

set_option maxRecDepth 100000 in
theorem sort_texts {w wr : World} {v : Value} {l : List (List UInt8)} (h : RowsOwn 9 1 txV w l v wr) (hl : l.length ≤ 1000000) :
    Calls Tryz.prog 67 #[v] wr fun e w' => e = .returned (.tuple #[]) ∧ RowsOwn 9 1 txV w (l.mergeSort fun x y => decide (x ≤ y)) v w' := by
  rcases h.1.2 with ⟨rfl, h0⟩ | ⟨g, cap, cur, rfl, hg0, hgb, hgc, hm, hs, ht⟩
  · have hl0 : l = [] := List.eq_nil_of_length_eq_zero h0
    subst hl0
    refine (Any.slices_Sort_string_none Tryz.lays190 none 0 wr).mono ?_
    rintro e w' ⟨rfl, rfl⟩
    exact ⟨rfl, by simpa using h⟩
  · have hb9 : g < wr.heap.size := (Array.getElem?_eq_some_iff.1 hgb).1
    refine (Tryz.slices_Sort_string g 0 cap l wr (holds_of_block hgb (by rw [Nat.mul_one, encStr_tx] at ht; exact ht)) hb9 (by omega)).mono ?_
    rintro e w' ⟨rfl, n, os, rfl⟩
    have hl9 : (l.mergeSort fun x y => decide (x ≤ y)).length = l.length := List.length_mergeSort _
    refine ⟨rfl, ?_, h.2.grown (grownBy_sorted _) h.2.size (fun k hk => by injection hk with hk; omega)⟩
    have ho := ownsRow_sorted (w := wr) (base := w.heap.size) (n := n) (os := os) (ts := l.mergeSort fun x y => decide (x ≤ y)) hl9 hg0 hgb hgc hm (by rw [hs])
    rw [hl9, encStr_tx]
    exact ho

set_option maxRecDepth 100000 in
theorem compact_texts {w wr : World} {v : Value} {l : List (List UInt8)} (h : RowsOwn 9 1 txV w l v wr) (hl : l.length ≤ 1000000) (hc : (Lib.compact l).length ≤ l.length) :
    Calls Tryz.prog 68 #[v] wr fun e w' => ∃ v', e = .returned v' ∧ Txs w' (NewIn w w') v' (Lib.compact l) ∧ Below w.heap.size w w' := by
  rcases h.1.2 with ⟨rfl, h0⟩ | ⟨g, cap, cur, rfl, hg0, hgb, hgc, hm, hs, ht⟩
  · have hl0 : l = [] := List.eq_nil_of_length_eq_zero h0
    subst hl0
    refine (Tryz.slices_Compact_string_empty none 0 wr).mono ?_
    rintro e w' ⟨rfl, rfl⟩
    exact ⟨_, rfl, Rws.none _ _ _, h.2⟩
  · refine (Tryz.slices_Compact_string g 0 cap l wr (holds_of_block hgb (by rw [Nat.mul_one, encStr_tx] at ht; exact ht)) (by omega) hgc).mono ?_
    rintro e w' ⟨rfl, q, rfl⟩
    have hlen : (Lib.compact l ++ List.replicate (l.length - (Lib.compact l).length) []).length = l.length := by rw [List.length_append, List.length_replicate]; omega
    have ho := ownsRow_sorted (w := wr) (base := w.heap.size) (n := q) (os := #[]) (ts := Lib.compact l ++ List.replicate (l.length - (Lib.compact l).length) []) (ss := l) hlen hg0 hgb hgc hm (by rw [hs])
    have hgr := grownBy_sorted (w := wr) (g := g) (n := q) (os := #[]) (Lib.compact l ++ List.replicate (l.length - (Lib.compact l).length) []).toArray
    have hgz : ∀ W : World, grow W #[] = W := fun W => by unfold grow; simp
    rw [hgz] at ho hgr
    have hR : RowsOwn 9 1 txV w (Lib.compact l ++ List.replicate (l.length - (Lib.compact l).length) []) (.slice (some ⟨g, 0, none⟩) l.length cap) (putRow encStr (Sort.ahead wr q) g 0 (Lib.compact l ++ List.replicate (l.length - (Lib.compact l).length) []).toArray) :=
      ⟨by rw [hlen, encStr_tx]; exact ho, h.2.grown hgr h.2.size (fun k hk => by injection hk with hk; omega)⟩
    have hrows := hR.rows (fun _ _ => rfl)
    have ht := hrows.take (by rw [hlen]) (Lib.compact l).length (by rw [hlen]; exact hc) cap (by omega)
    rw [List.take_left'  rfl] at ht
    exact ⟨_, rfl, ht, hR.2⟩

set_option maxRecDepth 100000 in
theorem pre_take {f : List Flt.Cl} {n : Nat} {c : Flt.Cl} (hc : f[n]? = some c) : (f.take (n + 1)).map (·.pre) = (f.take n).map (·.pre) ++ [c.pre] := by
  obtain ⟨hl, he⟩ := List.getElem?_eq_some_iff.1 hc
  rw [List.take_succ_eq_append_getElem hl, he, List.map_append]
  rfl

set_option maxRecDepth 100000 in
set_option maxHeartbeats 3200000 in
theorem flt_prefixes {w : World} {F : Nat → Prop} {v : Value} {f : List Flt.Cl} (h : Cls w F v f) (hl : f.length ≤ 100000) :
    Calls Tryz.prog 47 #[v] w fun e w' => ∃ v', e = .returned v' ∧ Txs w' (NewIn w w') v' (Flt.prefixes f) ∧ Below w.heap.size w w' := by
  obtain ⟨A, cap, rfl, hcap⟩ := h.parts
  obtain ⟨i0, hi0, hz0, hz1, hz2⟩ := info_parts strInfo
  have H := Lib.hid h
  have hl' : (f.length : Int) ≤ 100000 := by omega
  have SO : Hid (∀ (B : World) (x : Value), RowsOwn 9 1 txV w (f.map (·.pre)) x B → Calls Tryz.prog 67 #[x] B fun e w' => e = .returned (.tuple #[]) ∧ RowsOwn 9 1 txV w ((f.map (·.pre)).mergeSort fun x y => decide (x ≤ y)) x w') := Lib.hid (fun B x hx => sort_texts hx (by rw [List.length_map]; omega))
  have CO : Hid (∀ (B : World) (x : Value), RowsOwn 9 1 txV w ((f.map (·.pre)).mergeSort fun x y => decide (x ≤ y)) x B → Calls Tryz.prog 68 #[x] B fun e w' => ∃ v', e = .returned v' ∧ Txs w' (NewIn w w') v' (Flt.prefixes f) ∧ Below w.heap.size w w') := Lib.hid (fun B x hx => by
    have := compact_texts hx (by rw [List.length_mergeSort, List.length_map]; omega) (by rw [Flt.prefixes_sorted, List.length_mergeSort, List.length_map]; exact Flt.prefixes_len f)
    rwa [Flt.prefixes_sorted] at this)
  clear h
  go_enter Tryz.func47, Tryz.ntmps47
  go_wp2_with fail
  go_loopw [3, 5, 8] (fun out _ i wr => ∃ n : Nat, n ≤ f.length ∧ i = .int .i64 (n : Int) ∧ RowsOwn 9 1 txV w ((f.take n).map (·.pre)) out wr) (fun _ _ i _ => f.length - (intOf i).toNat)
  case atStart => exact ⟨0, Nat.zero_le _, rfl, RowsOwn.start _ _ _ w⟩
  case round =>
    obtain ⟨n, hn, rfl, hown⟩ := hrel
    by_cases hlt : n < f.length
    · obtain ⟨b, o, cap', e, -, -, hb⟩ := H.out.block (by omega)
      injection e with e1 e2 e3
      subst e1 e3
      clear e2
      obtain ⟨x, hx⟩ : ∃ x, f[n]? = some x := ⟨_, List.getElem?_eq_getElem hlt⟩
      have hn0 : (0 : Int) ≤ (n : Int) := by omega
      have hn1 : (n : Int) < (f.length : Int) := by omega
      have CA : Hid (∀ W, Below w.heap.size w W → W.cell? ⟨b, o + n * 3, none⟩ = some (.string (mk x.pre)) ∧ W.cell? ⟨b, o + n * 3 + 1, none⟩ = some (.int .i64 x.lo) ∧ W.cell? ⟨b, o + n * 3 + 2, none⟩ = some (.int .i64 x.hi)) := Lib.hid (fun W hW => Cls.at (H.out.below hW) hx)
      obtain ⟨c0, c1, c2⟩ := CA.out wr hown.2
      have hst := Lib.hid (pre_take hx)
      have hlen3 : ((f.take n).map (·.pre)).length ≤ n := by rw [List.length_map]; exact Flt.len_take f
      obtain ⟨xp, x1, x2⟩ := x
      simp only at c0 c1 c2
      have hst : Hid ((f.take (n + 1)).map (·.pre) = (f.take n).map (·.pre) ++ [xp]) := hst
      have hba : Below wr.heap.size wr (wr.alloc (.cells #[.string (mk xp), .int .i64 x1, .int .i64 x2] 42)) := (Below.refl _ _).alloc (Nat.le_refl _) _
      have Hown := Lib.hid (hown.below hba)
      clear hown hx hba CA
      generalize (f.take n).map (·.pre) = out at *
      have Hown2 := Hown
      have hown3 := Hown2.out.1.alloc (.cells #[.string (mk xp)] 9)
      have hmade := tx_made (wr.alloc (.cells #[.string (mk xp), .int .i64 x1, .int .i64 x2] 42)) 9 xp
      have hz1 : (wr.alloc (.cells #[.string (mk xp), .int .i64 x1, .int .i64 x2] 42)).heap.size = wr.heap.size + 1 := by simp
      rw [hz1] at hmade
      have hsz3 : w.heap.size ≤ ((wr.alloc (.cells #[.string (mk xp), .int .i64 x1, .int .i64 x2] 42)).alloc (.cells #[.string (mk xp)] 9)).heap.size := by have := Hown2.out.2.size; simp at this ⊢; omega
      clear hz1
      go_wp2_with (at_builtin; refine wp_joins (f := txV) (k := 1) rfl _ _ 43 rfl w.heap.size 9 i0 (.string ⟨#[]⟩) 16 Tryz.underlying43 hi0 hz0 hz1 hz2 rfl (by decide) rfl rfl hown3 hmade (fun _ _ => rfl) (fun x _ => tx_one x) ?c3 ?c4 hsz3 ?_)
      case c3 => unfold maxLen; first | omega | (simp <;> omega)
      case c4 => first | omega | (simp <;> omega)
      intro v3 w3 h1 h2 _
      have hnew := Lib.hid (Hown2.out.more (x := xp) (v' := v3) (by simpa [txV] using h1) h2)
      clear h1 h2 hown3 hmade
      go_wp2_with fail
      exact ⟨⟨n + 1, by omega, by go_num, by rw [hst.out]; exact hnew.out⟩, by show f.length - ((n : Int) + 1).toNat < f.length - (n : Int).toNat; omega⟩
    · obtain rfl : n = f.length := by omega
      rw [List.take_length] at hown
      have Hown := Lib.hid hown
      clear hown
      go_wp2_with fail
      refine (SO.out _ _ Hown.out).mono ?_
      rintro e w2 ⟨rfl, hs⟩
      have HS := Lib.hid hs
      clear hs
      go_wp2_with fail
      refine (CO.out _ _ HS.out).mono ?_
      rintro e w3 ⟨v3, rfl, hv3, hb3⟩
      have HV := Lib.hid hv3
      have HB := Lib.hid hb3
      clear hv3 hb3
      go_wp2_with fail
      go_ret
      exact ⟨_, rfl, HV.out, HB.out⟩
end Go.Proofs.YtabnfaonlkipbaaGreatDoor
/- The landed filter: sizer. -/
set_option linter.unusedSimpArgs false
set_option linter.unusedVariables false
namespace Go.Proofs.YtabnfaonlkipbaaGreatDoor
open Go.RowKit

set_option maxRecDepth 100000 in
set_option maxHeartbeats 6400000 in
theorem flt_sizer (Z : SizesOk) {w : World} {F : Nat → Prop} {v : Value} {f : List Flt.Cl} (h : Cls w F v f) (hl : f.length ≤ 100000) (bf : ∀ c ∈ f, Flt.Bd c) :
    Calls Tryz.prog 46 #[v] w fun e w' => ∃ (B bm nn : Nat) (m : Tm.Fn), e = .returned (.func (.func 64) #[] #[.pointer (some ⟨B, 0, none⟩)]) ∧ w'.cell? ⟨B, 0, none⟩ = some (.map (some bm)) ∧ B < w'.heap.size ∧ TmAt w' bm m nn ∧
      (∀ q v, m q = some v → Rgs w' (fun i => i ≠ bm) v (Flt.lev f q)) ∧ (∀ q, m q = none → (q = [] → Flt.lev f [] = []) ∧ (q ≠ [] → Flt.lev f q = Flt.lev f (Pth.parent q))) ∧ Below w.heap.size w w' := by
  have hbM : Below w.heap.size w (w.alloc (.map #[] 0)) := (Below.refl _ _).alloc (Nat.le_refl _) _
  have hb0 : Below w.heap.size w ((w.alloc (.map #[] 0)).alloc (.cells #[.map (some w.heap.size)] 93)) := hbM.alloc hbM.size _
  have hAS := flt_asc (h.below hb0) hl
  have hz0 : ((w.alloc (.map #[] 0)).alloc (.cells #[.map (some w.heap.size)] 93)).heap.size = w.heap.size + 2 := by simp
  have hM0 : TmAt ((w.alloc (.map #[] 0)).alloc (.cells #[.map (some w.heap.size)] 93)) w.heap.size (fun _ => none) 0 := (TmAt.made w).below ((Below.refl _ _).alloc (Nat.le_refl _) _)
  have hC0 : ((w.alloc (.map #[] 0)).alloc (.cells #[.map (some w.heap.size)] 93)).cell? ⟨w.heap.size + 1, 0, none⟩ = some (.map (some w.heap.size)) := by
    have := (Row.made (w.alloc (.map #[] 0)) 93 #[.map (some w.heap.size)]).at 0
    have e : (w.alloc (.map #[] 0)).heap.size = w.heap.size + 1 := by simp
    rw [e] at this
    exact this
  have AS := Lib.hid hAS
  have HM0 := Lib.hid hM0
  have HC0 := Lib.hid hC0
  have HB0 := Lib.hid hb0
  have HZ0 := Lib.hid hz0
  clear hAS hM0 hC0 hz0 hbM hb0 h
  have hmk := @run_makeMap Tryz.prog
  go_enter Tryz.func46, Tryz.ntmps46
  go_wp2_with fail
  go_step3
  go_wp2_with fail
  go_step3
  go_wp2_with fail
  refine (AS.out).mono ?_
  rintro e w1 ⟨sv, S, rfl, hS, hperm, hup⟩
  have hz1 := hS.2.size
  rw [HZ0.out] at hz1
  have HZ1 := Lib.hid hz1
  have HSr := Lib.hid (hS.rows (fun _ _ => rfl))
  have HM1 := Lib.hid (HM0.out.below hS.2)
  have HC1 : Hid (w1.cell? ⟨w.heap.size + 1, 0, none⟩ = some (.map (some w.heap.size))) := Lib.hid ((hS.2.cell (p := ⟨w.heap.size + 1, 0, none⟩) (by rw [HZ0.out]; show w.heap.size + 1 < w.heap.size + 2; omega)).trans HC0.out)
  have HB1 : Hid (Below w.heap.size w w1) := Lib.hid (HB0.out.trans (hS.2.mono HB0.out.size))
  have Hperm := Lib.hid hperm
  have Hup := Lib.hid hup
  have hSl : S.length ≤ 100000 := by rw [hperm.length_eq]; exact hl
  have bS : ∀ c ∈ S, Flt.Bd c := fun c hc => bf c (hperm.mem_iff.1 hc)
  have BS := Lib.hid bS
  have hsd : Hid (∀ i, NewIn ((w.alloc (.map #[] 0)).alloc (.cells #[.map (some w.heap.size)] 93)) w1 i → ¬ i = w.heap.size) := Lib.hid (fun i hi e => by have := hi.1; rw [HZ0.out] at this; omega)
  clear hS hperm hup bf bS hz1 HM0 HC0 HB0 AS
  obtain ⟨SA, sc, rfl, hsc⟩ := HSr.out.parts
  have hSl' : (S.length : Int) ≤ 100000 := by omega
  have HSl := Lib.hid hSl
  clear hSl
  go_wp2_with fail
  go_loopw [6, 7, 9, 15] (fun _ _ _ i wr => ∃ (n : Nat) (m : Tm.Fn), n ≤ S.length ∧ i = .int .i64 (n : Int) ∧ Hid (TmAt wr w.heap.size m n) ∧ Hid (∀ q v, m q = some v → Rgs wr (fun i => i ≠ w.heap.size) v (Flt.lev (S.take n) q)) ∧ Hid (Flt.Fits (S.take n) (fun q => m q ≠ none)) ∧ Kept (fun i => i = w.heap.size) w1 wr) (fun _ _ _ i _ => S.length - (intOf i).toNat)
  case atStart => exact ⟨0, fun _ => none, Nat.zero_le _, rfl, HM1, Lib.hid (fun q v h => by cases h), Lib.hid (Flt.fits_start.iff (fun q => ⟨fun h => h rfl, fun h => h.elim⟩)), Kept.refl _ _⟩
  case round =>
    obtain ⟨n, m, hn, rfl, hm, hv, hfit, hkept⟩ := hrel
    obtain ⟨w5, rfl⟩ : ∃ W : World, W = wr := ⟨_, rfl⟩
    have hz5 : w.heap.size + 2 ≤ w5.heap.size := Nat.le_trans HZ1.out hkept.size
    have hcB : w5.cell? ⟨w.heap.size + 1, 0, none⟩ = some (.map (some w.heap.size)) := (hkept.cell (p := ⟨w.heap.size + 1, 0, none⟩) (by have := HZ1.out; show w.heap.size + 1 < w1.heap.size; omega) (by show ¬ (w.heap.size + 1 = w.heap.size); omega)).trans HC1.out
    by_cases hlt : n < S.length
    · obtain ⟨b, o, sc', e, -, -, hb⟩ := HSr.out.block (by omega)
      injection e with e1 e2 e3
      subst e1 e3
      clear e2
      obtain ⟨c, hc⟩ : ∃ c, S[n]? = some c := ⟨_, List.getElem?_eq_getElem hlt⟩
      obtain ⟨c0, c1, c2⟩ := Cls.at (HSr.out.kept hkept hsd.out) hc
      have hbc := BS.out c (List.mem_of_getElem? hc)
      have htk : Hid (S.take (n + 1) = S.take n ++ [c]) := Lib.hid (by
        obtain ⟨h1, h2⟩ := List.getElem?_eq_some_iff.1 hc
        rw [List.take_succ_eq_append_getElem h1, h2])
      have hcu : Hid (∀ d ∈ S.take n, ¬ c.pre < d.pre) := Lib.hid (fun d hd => by
        obtain ⟨i, hi, he⟩ := List.getElem_of_mem hd
        rw [List.length_take] at hi
        have hd2 : S[i]? = some d := by
          rw [← he, List.getElem_take]
          exact List.getElem?_eq_getElem (by omega)
        exact Hup.out i n d c (by omega) hd2 hc)
      have hn0 : (0 : Int) ≤ (n : Int) := by omega
      have hn1 : (n : Int) < (S.length : Int) := by omega
      have hba : Below w5.heap.size w5 (w5.alloc (.cells #[.string (mk c.pre), .int .i64 c.lo, .int .i64 c.hi] 42)) := (Below.refl _ _).alloc (Nat.le_refl _) _
      have TE := Lib.hid (tell_any (L := Flt.lev (S.take n)) (hm.out.below hba) ((hba.cell (p := ⟨w.heap.size + 1, 0, none⟩) (by show w.heap.size + 1 < w5.heap.size; omega)).trans hcB) (by have := hba.size; omega) (fun q v hq => (hv.out q v hq).below hba) (fun q hq => hfit.out.2 q (fun k => k hq)) c.pre hbc.1)
      have HX := Lib.hid (Row.made w5 42 #[.string (mk c.pre), .int .i64 c.lo, .int .i64 c.hi])
      have Hba := Lib.hid hba
      have Hkept := Lib.hid hkept
      have hzx : Hid (w5.heap.size < (w5.alloc (.cells #[.string (mk c.pre), .int .i64 c.lo, .int .i64 c.hi] 42)).heap.size) := Lib.hid (by simp)
      have Hz5 := Lib.hid hz5
      have HcB := Lib.hid hcB
      have HKL := Lib.hid (Flt.lev_len (S.take n) c.pre)
      have HKB := Lib.hid (Flt.lev_bd (S.take n) c.pre)
      have Hbc := Lib.hid hbc
      clear hkept hba hbc hc hcB hz5
      obtain ⟨p, lo, hi⟩ := c
      simp only at c0 c1 c2 hcu htk TE HX Hba hzx HKL HKB
      go_wp2_with fail
      refine (TE.out).mono ?_
      rintro e w2 ⟨kv, rfl, hkv, hb2⟩
      have HKr := Lib.hid hkv
      have K2 : Hid (Kept (fun i => i = w.heap.size) w1 w2) := Lib.hid (Hkept.out.trans (Kept.ofBelow (Hba.out.trans (hb2.mono Hba.out.size)) (fun i => i = w.heap.size)) (fun _ _ h => h))
      have TM2 : Hid (TmAt w2 w.heap.size m n) := Lib.hid ((hm.out.below Hba.out).below hb2)
      have V2 : Hid (∀ q v, m q = some v → Rgs w2 (fun i => i ≠ w.heap.size) v (Flt.lev (S.take n) q)) := Lib.hid (fun q v hq => ((hv.out q v hq).below Hba.out).below hb2)
      have hz52 : w5.heap.size < w2.heap.size := Nat.lt_of_lt_of_le hzx.out hb2.size
      have Hz52 := Lib.hid hz52
      have CS : Hid (∀ W, Below w2.heap.size w2 W → W.cell? ⟨w.heap.size + 1, 0, none⟩ = some (.map (some w.heap.size)) ∧ W.cell? ⟨w5.heap.size, 0, none⟩ = some (.string (mk p)) ∧ W.cell? ⟨w5.heap.size, 1, none⟩ = some (.int .i64 lo) ∧ W.cell? ⟨w5.heap.size, 2, none⟩ = some (.int .i64 hi)) := Lib.hid (fun W hW => by
        have hb3 := hb2.trans (hW.mono hb2.size)
        have hs5 := Hba.out.size
        refine ⟨?_, (hb3.cell (p := ⟨w5.heap.size, 0, none⟩) hzx.out).trans (HX.out.at 0), (hb3.cell (p := ⟨w5.heap.size, 1, none⟩) hzx.out).trans (HX.out.at 1), (hb3.cell (p := ⟨w5.heap.size, 2, none⟩) hzx.out).trans (HX.out.at 2)⟩
        refine (hb3.cell (p := ⟨w.heap.size + 1, 0, none⟩) (by have := Hz5.out; show w.heap.size + 1 < _; omega)).trans ?_
        exact (Hba.out.cell (p := ⟨w.heap.size + 1, 0, none⟩) (by have := Hz5.out; show w.heap.size + 1 < w5.heap.size; omega)).trans HcB.out)
      have JO : Hid (∀ (P Q : Nat → Prop) (W : World) (x y : Value), Rgs W P x (Flt.lev (S.take n) p) → Rgs W Q y [(lo, hi)] → Calls Tryz.prog 66 #[x, y] W fun e w' => ∃ v', e = .returned v' ∧ Rgs w' (NewIn W w') v' (Sz.two 0 (Flt.lev (S.take n) p) [(lo, hi)]) ∧ Below W.heap.size W w') := Lib.hid (fun P Q W x y hx hy => Z.join hx hy (by have := HKL.out; omega) (by simp) (fun r hr => by have := HKB.out r hr; unfold Bd; omega) (fun r hr => by rw [List.mem_singleton.1 hr]; exact Hbc.out.2))
      have hput := Lib.hid (Flt.lev_put (S.take n) ⟨p, lo, hi⟩)
      have hskip := Lib.hid (fun hr => Flt.lev_skip (P := S.take n) (c := ⟨p, lo, hi⟩) hr)
      have hfskip := Lib.hid (fun hr => Flt.fits_skip (c := ⟨p, lo, hi⟩) hfit.out hr)
      have hknown : Hid (∀ q, m q ≠ none → q ≠ p → Flt.lev (S.take n ++ [⟨p, lo, hi⟩]) q = Flt.lev (S.take n) q) := Lib.hid (fun q hq hne => Flt.lev_known (c := ⟨p, lo, hi⟩) hfit.out hcu.out (q := q) hq hne)
      have hfput := Lib.hid (Flt.fits_put (c := ⟨p, lo, hi⟩) hfit.out)
      have hkl : (Flt.lev (S.take n) p).length ≤ 202 := HKL.out
      have HnS : Hid (n ≤ 100000) := Lib.hid (by have := HSl.out; omega)
      have Hpp : Hid (p.length ≤ 100000) := Lib.hid Hbc.out.1
      clear hkv hb2 hm hv hfit c0 c1 c2 TE Hba HX hzx Hkept HcB hz52
      obtain ⟨KA, kc, rfl, hkc⟩ := HKr.out.parts
      generalize hKK : Flt.lev (S.take n) p = K at *
      have HKK := Lib.hid hKK
      clear hKK
      have hkl' : (K.length : Int) ≤ 202 := by omega
      go_wp2_with fail
      go_loopw [9, 25] (fun _ j wq => ∃ k : Nat, k ≤ K.length ∧ j = .int .i64 (k : Int) ∧ Below w2.heap.size w2 wq) (fun _ j _ => K.length - (intOf j).toNat)
      case atStart => exact ⟨0, Nat.zero_le _, rfl, Below.refl _ _⟩
      case round =>
        obtain ⟨k, hk, rfl, hbq⟩ := hrel
        obtain ⟨q0, q1, q2, q3⟩ := CS.out wr hbq
        have HQ := Lib.hid hbq
        by_cases hlk : k < K.length
        · obtain ⟨rb, ro, kc', e, -, -, hrb⟩ := HKr.out.block (by omega)
          injection e with e1 e2 e3
          subst e1 e3
          clear e2
          obtain ⟨r, hr⟩ : ∃ r, K[k]? = some r := ⟨_, List.getElem?_eq_getElem hlk⟩
          obtain ⟨d0, d1⟩ := Rgs.at (HKr.out.below hbq) hr
          have hrm := List.mem_of_getElem? hr
          have hk0 : (0 : Int) ≤ (k : Int) := by omega
          have hk1 : (k : Int) < (K.length : Int) := by omega
          have hba : Below wr.heap.size wr (wr.alloc (.cells #[.int .i64 r.1, .int .i64 r.2] 40)) := (Below.refl _ _).alloc (Nat.le_refl _) _
          have HQ2 : Hid (Below w2.heap.size w2 (wr.alloc (.cells #[.int .i64 r.1, .int .i64 r.2] 40))) := Lib.hid (hbq.trans (hba.mono hbq.size))
          clear hr hbq hba
          obtain ⟨r1, r2⟩ := r
          simp only at d0 d1 HQ2
          obtain ⟨z0, z1, z2, z3⟩ := CS.out _ HQ2.out
          have hne : w5.heap.size ≠ wr.heap.size := by have := Hz52.out; have := HQ.out.size; omega
          by_cases hc1 : r1 ≤ lo
          · have g1 : decide (r1 ≤ lo) = true := decide_eq_true hc1
            by_cases hc2 : hi ≤ r2
            · have g2 : decide (hi ≤ r2) = true := decide_eq_true hc2
              have hex : ∃ r ∈ K, r.1 ≤ lo ∧ hi ≤ r.2 := ⟨(r1, r2), hrm, hc1, hc2⟩
              have hF := Lib.hid (hfskip.out hex)
              have hV : Hid (∀ q v, m q = some v → Rgs (wr.alloc (.cells #[.int .i64 r1, .int .i64 r2] 40)) (fun i => i ≠ w.heap.size) v (Flt.lev (S.take (n + 1)) q)) := Lib.hid (fun q v hq => by
                rw [htk.out]
                by_cases e : q = p
                · subst e
                  have h1 := hskip.out hex
                  have h2 : Flt.lev (S.take n ++ [⟨q, lo, hi⟩]) q = K := h1
                  rw [h2, ← HKK.out]
                  exact (V2.out q v hq).below HQ2.out
                · rw [hknown.out q (by rw [hq]; simp) e]
                  exact (V2.out q v hq).below HQ2.out)
              have hT := Lib.hid ((TM2.out.below HQ2.out))
              have hK3 := Lib.hid (K2.out.trans (Kept.ofBelow HQ2.out (fun i => i = w.heap.size)) (fun _ _ h => h))
              clear hex hrm
              go_wp2_with fail
              exact ⟨⟨n + 1, m, by omega, by go_num, by obtain ⟨l, a1, a2, a3⟩ := hT.out; exact Lib.hid ⟨l, a1, by omega, a3⟩, hV, by rw [htk.out]; exact hF, hK3.out⟩, by show S.length - ((n : Int) + 1).toNat < S.length - (n : Int).toNat; omega⟩
            · have g2 : decide (hi ≤ r2) = false := decide_eq_false hc2
              clear hrm
              go_wp2_with fail
              exact ⟨⟨k + 1, by omega, by go_num, HQ2.out⟩, by show K.length - ((k : Int) + 1).toNat < K.length - (k : Int).toNat; omega⟩
          · have g1 : decide (r1 ≤ lo) = false := decide_eq_false hc1
            clear hrm
            go_wp2_with fail
            exact ⟨⟨k + 1, by omega, by go_num, HQ2.out⟩, by show K.length - ((k : Int) + 1).toNat < K.length - (k : Int).toNat; omega⟩
        · have HQ2 : Hid (Below w2.heap.size w2 wr.drew) := Lib.hid hbq.drew
          clear hbq
          go_wp2_with fail
          refine wp_region_held_drew (S := (fun w' : World => w'.cell? ⟨w.heap.size + 1, 0, none⟩ = some (.map (some w.heap.size)) ∧ w'.cell? ⟨w5.heap.size, 0, none⟩ = some (.string (mk p)) ∧ w'.cell? ⟨w5.heap.size, 1, none⟩ = some (.int .i64 lo) ∧ w'.cell? ⟨w5.heap.size, 2, none⟩ = some (.int .i64 hi))) (by kernel_rfl) (CS.out _ HQ2.out) (fun hHeld => ?_)
          refine wpAnyH_take (i := 0) (v := ?_) rfl (by kernel_rfl) (by kernel_rfl) (by kernel_rfl) (fun _ _ _ h => h) (Or.inl ⟨by rfl, (by intro w hSw; have d0 := hSw.2.1; have d1 := hSw.2.2.1; have d2 := hSw.2.2.2; have d3 := hSw.1; go_simp; try with_reducible rfl)⟩) (by assumption) ?_
          simp only [Act.put, List.getElem_toArray, List.getElem_cons_zero, List.getElem_cons_succ, List.setIfInBounds_toArray, List.set_cons_zero, List.set_cons_succ]
          refine wpAnyH_take (i := 1) (v := ?_) rfl (by kernel_rfl) (by kernel_rfl) (by kernel_rfl) (fun _ _ _ h => h) (Or.inl ⟨by rfl, (by intro w hSw; go_simp; try with_reducible rfl)⟩) (by assumption) ?_
          simp only [Act.put, List.getElem_toArray, List.getElem_cons_zero, List.getElem_cons_succ, List.setIfInBounds_toArray, List.set_cons_zero, List.set_cons_succ]
          refine wpAnyH_take (i := 2) (v := ?_) rfl (by kernel_rfl) (by kernel_rfl) (by kernel_rfl) (fun _ _ _ h => h) (Or.inl ⟨by rfl, (by intro w hSw; have d0 := hSw.2.1; have d1 := hSw.2.2.1; have d2 := hSw.2.2.2; have d3 := hSw.1; go_simp; try with_reducible rfl)⟩) (by assumption) ?_
          simp only [Act.put, List.getElem_toArray, List.getElem_cons_zero, List.getElem_cons_succ, List.setIfInBounds_toArray, List.set_cons_zero, List.set_cons_succ]
          refine wpAnyH_take (i := 3) (v := ?_) rfl (by kernel_rfl) (by kernel_rfl) (by kernel_rfl) (fun _ _ _ h => h) (Or.inl ⟨by rfl, (by intro w hSw; go_simp; try with_reducible rfl)⟩) (by assumption) ?_
          simp only [Act.put, List.getElem_toArray, List.getElem_cons_zero, List.getElem_cons_succ, List.setIfInBounds_toArray, List.set_cons_zero, List.set_cons_succ]
          refine wpAnyH_take (i := 4) (v := ?_) rfl (by kernel_rfl) (by kernel_rfl) (by kernel_rfl) (fun _ _ _ h => h) (Or.inl ⟨by rfl, (by intro w hSw; go_simp; try with_reducible rfl)⟩) (by assumption) ?_
          simp only [Act.put, List.getElem_toArray, List.getElem_cons_zero, List.getElem_cons_succ, List.setIfInBounds_toArray, List.set_cons_zero, List.set_cons_succ]
          refine wpAnyH_take (i := 5) (v := ?_) rfl (by kernel_rfl) (by kernel_rfl) (by kernel_rfl) (fun _ _ _ h => h) (Or.inl ⟨by rfl, (by intro w hSw; have d0 := hSw.2.1; have d1 := hSw.2.2.1; have d2 := hSw.2.2.2; have d3 := hSw.1; go_simp; try with_reducible rfl)⟩) (by assumption) ?_
          simp only [Act.put, List.getElem_toArray, List.getElem_cons_zero, List.getElem_cons_succ, List.setIfInBounds_toArray, List.set_cons_zero, List.set_cons_succ]
          refine wpAnyH_ready (rs := [6]) (by kernel_rfl) (by simp) ?_
          refine AllReadyH.cons rfl (fun K hK => ?_) AllReadyH.nil
          go_simp
          have hb6 : Below wr.drew.heap.size wr.drew (wr.drew.alloc (.cells #[.int .i64 lo, .int .i64 hi] 40)) := (Below.refl _ _).alloc (Nat.le_refl _) _
          have HB6 : Hid (Below w2.heap.size w2 (wr.drew.alloc (.cells #[.int .i64 lo, .int .i64 hi] 40))) := Lib.hid (HQ2.out.trans (hb6.mono HQ2.out.size))
          have HM6 := Lib.hid (rg_made wr.drew 40 lo hi)
          have hS6 := CS.out _ HB6.out
          clear hb6
          refine hK.out _ _ hS6 (fun hHeld => ?_)
          clear hS6
          clear hK K
          refine wpAnyH_ready (rs := [7]) (by kernel_rfl) (by simp) ?_
          refine AllReadyH.cons rfl (fun K hK => ?_) AllReadyH.nil
          go_simp
          go_at_call 66
          refine (JO.out _ _ _ _ _ (HKr.out.below HB6.out) HM6.out).mono ?_
          rintro e w7 ⟨jv, rfl, hjv, hb7⟩
          have HB7 : Hid (Below w2.heap.size w2 w7) := Lib.hid (HB6.out.trans (hb7.mono HB6.out.size))
          have HJ := Lib.hid hjv
          have HZ7 : Hid (w2.heap.size ≤ (wr.drew.alloc (.cells #[.int .i64 lo, .int .i64 hi] 40)).heap.size) := Lib.hid HB6.out.size
          have hS7 := CS.out _ HB7.out
          clear hjv hb7
          refine hK.out _ _ hS7 (fun hHeld => ?_)
          clear hS7
          clear hK K
          refine wpAnyH_ready (rs := [8]) (by kernel_rfl) (by simp) ?_
          refine AllReadyH.cons rfl (fun K hK => ?_) AllReadyH.nil
          obtain ⟨w8, hup8, hm8, hg8⟩ := (TM2.out.below HB7.out).put (by have := HnS.out; omega) (k := p) (by have := Hpp.out; omega) jv
          have kk := Kept.ofGrown (F := fun i => i = w.heap.size) hg8 (fun i e => by injection e with e; exact e.symm)
          have hz7 := HB7.out.size
          have hz5 := Hz5.out
          have hz52 := Hz52.out
          have hS8 := (⟨(kk.cell (p := ⟨w.heap.size + 1, 0, none⟩) (by have := Hz5.out; show w.heap.size + 1 < w7.heap.size; omega) (by show ¬ (w.heap.size + 1 = w.heap.size); omega)).trans hHeld.1, (kk.cell (p := ⟨w5.heap.size, 0, none⟩) (by show w5.heap.size < w7.heap.size; omega) (by show ¬ (w5.heap.size = w.heap.size); omega)).trans hHeld.2.1, (kk.cell (p := ⟨w5.heap.size, 1, none⟩) (by show w5.heap.size < w7.heap.size; omega) (by show ¬ (w5.heap.size = w.heap.size); omega)).trans hHeld.2.2.1, (kk.cell (p := ⟨w5.heap.size, 2, none⟩) (by show w5.heap.size < w7.heap.size; omega) (by show ¬ (w5.heap.size = w.heap.size); omega)).trans hHeld.2.2.2⟩ : _ ∧ _ ∧ _ ∧ _)
          have HM8 := Lib.hid hm8
          have KK := Lib.hid kk
          clear hm8 hg8 kk hz7 hz5 hz52
          go_simp
          refine hK.out _ _ hS8 (fun hHeld => ?_)
          clear hS8
          clear hK K
          refine wpAnyH_done (by kernel_rfl) ?_ _
          have hV : Hid (∀ q v, Tm.set m p jv q = some v → Rgs w8 (fun i => i ≠ w.heap.size) v (Flt.lev (S.take (n + 1)) q)) := Lib.hid (fun q v hq => by
            rw [htk.out]
            unfold Tm.set at hq
            by_cases e : q = p
            · subst e
              rw [if_pos rfl] at hq
              injection hq with hq
              subst hq
              have h1 := hput.out
              have h2 : Flt.lev (S.take n ++ [⟨q, lo, hi⟩]) q = Sz.two 0 K [(lo, hi)] := h1
              rw [h2]
              exact (HJ.out.mono (G := fun i => i ≠ w.heap.size) (fun i hi e => by have := hi.1; have := HZ7.out; have := Hz5.out; have := Hz52.out; omega)).kept KK.out (fun i h k => h k)
            · rw [if_neg e] at hq
              rw [hknown.out q (by rw [hq]; simp) e]
              exact ((V2.out q v hq).below HB7.out).kept KK.out (fun i h k => h k))
          have hF : Hid (Flt.Fits (S.take (n + 1)) (fun q => Tm.set m p jv q ≠ none)) := Lib.hid (by
            rw [htk.out]
            refine hfput.out.iff (fun q => ?_)
            unfold Tm.set
            by_cases e : q = p
            · rw [if_pos e]; exact ⟨fun _ => Or.inl e, fun _ h => by cases h⟩
            · rw [if_neg e]; exact ⟨fun h => Or.inr h, fun h => h.resolve_left e⟩)
          have hK3 := Lib.hid ((K2.out.trans (Kept.ofBelow HB7.out (fun i => i = w.heap.size)) (fun _ _ h => h)).trans KK.out (fun _ _ h => h))
          clear hHeld
          go_wp2_with fail
          exact ⟨⟨n + 1, _, by omega, by go_num, HM8, hV, hF, hK3.out⟩, by show S.length - ((n : Int) + 1).toNat < S.length - (n : Int).toNat; omega⟩
    · obtain rfl : n = S.length := by omega
      have hend : Hid ((∀ q v, m q = some v → Rgs w5 (fun i => i ≠ w.heap.size) v (Flt.lev f q)) ∧ (∀ q, m q = none → (q = [] → Flt.lev f [] = []) ∧ (q ≠ [] → Flt.lev f q = Flt.lev f (Pth.parent q)))) := Lib.hid (by
        have h1 := hv.out
        have h2 := hfit.out
        rw [List.take_length] at h1 h2
        refine ⟨fun q v hq => by rw [← Flt.lev_perm Hperm.out]; exact h1 q v hq, fun q hq => ?_⟩
        have := h2.2 q (fun k => k hq)
        rw [Flt.lev_perm Hperm.out, Flt.lev_perm Hperm.out, Flt.lev_perm Hperm.out] at this
        exact this)
      have HcB := Lib.hid hcB
      have Hz5 := Lib.hid hz5
      have Hfin : Hid (Below w.heap.size w w5) := Lib.hid (HB1.out.trans (hkept.below (B := w.heap.size) HB1.out.size (fun i e => by rw [e]; exact Nat.le_refl _)))
      clear hkept hv hfit hcB hz5
      go_wp2_with fail
      try rw [Exit.noGoto_ret]
      go_ret
      exact ⟨w.heap.size + 1, w.heap.size, S.length, m, rfl, HcB.out, by have := Hz5.out; omega, hm.out, hend.out.1, hend.out.2, Hfin.out⟩
end Go.Proofs.YtabnfaonlkipbaaGreatDoor
