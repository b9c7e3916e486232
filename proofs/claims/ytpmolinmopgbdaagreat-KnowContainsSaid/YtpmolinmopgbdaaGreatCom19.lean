import Derived.Test.YtpmolinmopgbdaaGreatCom18
import Derived.Test.YtpmolinmopgbdaaGreatCom2
import Derived.Test.YtpmolinmopgbdaaGreatCom15
import Derived.Shelf.SlSortCmp.NoneTotal
import Derived.Shelf.Slices.In.SortNone
import Derived.Sort.OwnSorted
import Derived.Great.Walk
set_option maxRecDepth 100000
set_option linter.unusedVariables false
set_option linter.unusedSimpArgs false
set_option maxHeartbeats 12800000
namespace Go.Proofs.YtpmolinmopgbdaaGreat
open List renaming getElem_toArray → z1, getElem_cons_zero → z2, getElem_cons_succ → z3, setIfInBounds_toArray → z4, set_cons_zero → z5, set_cons_succ → z6
open Go.RowKit Go.Shelf Go.Lib Go.Sort
theorem cmp_lt : ∀ (a b : List UInt8), decide (Lib.compareBytes a b < 0) = decide (a < b)
  | [], [] => by simp [Lib.compareBytes]
  | [], _ :: _ => by simp [Lib.compareBytes]
  | _ :: _, [] => by simp [Lib.compareBytes]
  | x :: a, y :: b => by
    unfold Lib.compareBytes
    by_cases h : x < y
    · simp [h, List.cons_lt_cons_iff]
    · by_cases h2 : y < x
      · have hne : ¬ x = y := fun e => h (by rw [e] at h2; exact absurd h2 (UInt8.lt_irrefl _))
        simp [h, h2, List.cons_lt_cons_iff, hne]
      · have e : x = y := UInt8.le_antisymm (UInt8.not_lt.1 h2) (UInt8.not_lt.1 h)
        subst e
        have ih := cmp_lt a b
        rw [if_neg h, if_neg h, ih]
        simp [List.cons_lt_cons_iff, h]
def cmpPre (x y : Flt.Cl) : Int := Lib.compareBytes x.pre y.pre
theorem lt_pre (x y : Flt.Cl) : ltOf cmpPre x y = decide (x.pre < y.pre) := cmp_lt x.pre y.pre
theorem swo_pre : SWO (ltOf cmpPre) where
  irrefl x := by rw [lt_pre]; exact decide_eq_false (List.lt_irrefl _)
  trans x y z h1 h2 := by
    rw [lt_pre] at *
    exact decide_eq_true (List.lt_trans (of_decide_eq_true h1) (of_decide_eq_true h2))
  ntrans x y z h1 h2 := by
    rw [lt_pre] at *
    have k1 := of_decide_eq_false h1
    have k2 := of_decide_eq_false h2
    refine decide_eq_false (fun h => ?_)
    have a1 : y.pre ≤ x.pre := List.not_lt.1 k1
    have a2 : z.pre ≤ y.pre := List.not_lt.1 k2
    exact absurd h (List.not_lt.2 (List.le_trans a2 a1))
theorem asc_cmp (x y : Flt.Cl) (W : World) : Calls Tryz.prog 161 #[.agg #[.string (mk x.pre), .int .i64 x.lo, .int .i64 x.hi], .agg #[.string (mk y.pre), .int .i64 y.lo, .int .i64 y.hi]] W fun e w' => e = .returned (.int .i64 (cmpPre x y)) ∧ ∃ q os', w' = grow (W.drewN q) os' := by
  have hcon := fun W' => Tryz.strings_Compare (mk x.pre) (mk y.pre) W'
  simp only [mk_data] at hcon
  obtain ⟨xp, x1, x2⟩ := x
  obtain ⟨yp, y1, y2⟩ := y
  unfold cmpPre
  simp only at hcon ⊢
  generalize Lib.compareBytes xp yp = r at hcon ⊢
  have HC := Lib.hid hcon
  clear hcon
  generalize mk xp = xs at *
  generalize mk yp = ys at *
  go_enter Tryz.func161, Tryz.ntmps161
  go_wp2_with (go_at_call 162; refine (HC.out _).mono ?_; rintro e w' ⟨rfl, rfl⟩)
  go_ret
  exact ⟨rfl, 0, _, by rw [alloc_eq_grow, alloc_eq_grow, grow_grow]; rfl⟩
theorem clone_any {w : World} {F : Nat → Prop} {v : Value} {f : List Flt.Cl} (h : Cls w F v f) (hl : f.length ≤ 100000) :
    Calls Tryz.prog 67 #[v] w fun e w' => ∃ v', e = .returned v' ∧ RowsOwn 93 3 clV w f v' w' := by
  obtain ⟨i0, hi0, hz0, hz1, hz2⟩ := info_parts clauseInfo
  have hb0 : Below w.heap.size w (w.alloc (.cells #[] 93)) := (Below.refl _ _).alloc (Nat.le_refl _) _
  have hr := h.below hb0
  have h0own : (w.alloc (.cells #[] 93)).ownsRow w.heap.size 93 3 (.slice (some ⟨w.heap.size, 0, none⟩) 0 0) 0 [] := World.ownsRow_made w #[] 0 (Nat.le_refl _) (by decide) rfl
  obtain ⟨A, cap, rfl, hcap, hat⟩ := h
  have q22 : ∀ (w : World) (a : Option Addr) (n c n' c' : Nat), (binOp .eql 28 (.slice a n c) (.slice none n' c')).run Tryz.prog w = .ok (.bool a.isNone) w := fun w a n c n' c' => Lib.run_eql_slice_nil w _ _ a n c n' c' Tryz.underlying28
  cases A with
  | none =>
    have h0 : f.length = 0 := Nat.eq_zero_of_not_pos (fun hp => by obtain ⟨b, o, e, -⟩ := hat hp; cases e)
    have hf : f = [] := List.eq_nil_of_length_eq_zero h0
    subst hf
    clear hr hat
    go_enter Tryz.func67, Tryz.ntmps67
    go_wp2_with fail
    go_ret
    exact ⟨_, rfl, RowsOwn.start _ _ _ w⟩
  | some ad =>
    clear hat
    go_enter Tryz.func67, Tryz.ntmps67
    go_wp2_with (at_builtin; refine wp_joins (f := clV) (k := 3) rfl _ _ 28 rfl w.heap.size 93 i0 (.agg #[.string ⟨#[]⟩, .int .i64 0, .int .i64 0]) 32 Tryz.underlying28 hi0 hz0 hz1 hz2 rfl (by decide) rfl rfl h0own hr (fun _ _ => rfl) (fun x _ => cl_one x) ?a1 ?a2 ?a3 ?_)
    case a1 => unfold maxLen; omega
    case a2 => omega
    case a3 => simp
    intro v2 w2 own2 hg2 _
    have F2 := Lib.hid (RowsOwn.front hg2 (by rw [Nat.zero_add, List.nil_append]; exact own2))
    clear own2 hg2 hr h0own
    go_wp2_with fail
    go_ret
    exact ⟨_, rfl, F2.out⟩
theorem asc_sort {w wr : World} {v : Value} {l : List Flt.Cl} (h : RowsOwn 93 3 clV w l v wr) (hl : l.length ≤ 1000000) :
    Calls Tryz.prog 160 #[v, .func (.func 161) #[] #[]] wr fun e w' => e = .returned (.tuple #[]) ∧ ∃ S : List Flt.Cl, RowsOwn 93 3 clV w S v w' ∧ S.Perm l ∧ ∀ (i j : Nat) (x y : Flt.Cl), i < j → S[i]? = some x → S[j]? = some y → ¬ y.pre < x.pre := by
  rcases Nat.eq_zero_or_pos l.length with h0 | h0
  · have hl0 : l = [] := List.eq_nil_of_length_eq_zero h0
    subst hl0
    obtain ⟨A, cap, e, -⟩ := (h.rows (fun _ _ => rfl)).parts
    rw [List.length_nil] at e
    subst e
    refine (AnyF.slices_SortFunc_none (P := Tryz.prog) (ρ := Tryz.sortCl_ren) { Tryz.sortCl with } A cap _ wr).mono ?_
    rintro e w' ⟨rfl, rfl⟩
    exact ⟨rfl, [], h, List.Perm.refl _, fun i j x y _ hx _ => by simp at hx⟩
  · obtain ⟨g, cap, rfl, hg0, hgl⟩ := h.1.form (by omega)
    have eg : ∀ args w, (callFunc 161 args).run Tryz.prog w = .ok (.enter 161 args) w := enters_of Tryz.func161 (by kernel_rfl) rfl
    have hcon := AnyQ.slices_SortFunc Tryz.sortCl 3 Tryz.isAgg93 Tryz.sizeOf93 clV cl_len cl_one cmpPre swo_pre 161 #[] g 0 cap l.toArray wr eg (fun _ _ _ _ x y => asc_cmp x y _) (own_holds cl_len (by decide) h.1) hgl (by simp; omega)
    refine hcon.mono ?_
    rintro e w' ⟨rfl, d, n, os, hp, hs, rfl⟩
    obtain ⟨hperm, hsz⟩ := perm_list hp
    refine ⟨rfl, d.toList, h.sorted cl_len (by decide) hsz, hperm, fun i j x y hij hx hy => ?_⟩
    rw [Array.getElem?_toList] at hx hy
    obtain ⟨hi, ex⟩ := Array.getElem?_eq_some_iff.1 hx
    obtain ⟨hj, ey⟩ := Array.getElem?_eq_some_iff.1 hy
    have hlt := hs i j (Nat.zero_le _) hij (by simpa [hsz] using hj)
    rw [lt_pre, getElem!_pos d i hi, getElem!_pos d j hj, ex, ey] at hlt
    exact of_decide_eq_false hlt
theorem flt_asc {w : World} {F : Nat → Prop} {v : Value} {f : List Flt.Cl} (h : Cls w F v f) (hl : f.length ≤ 100000) :
    Calls Tryz.prog 130 #[v] w fun e w' => ∃ v' S, e = .returned v' ∧ RowsOwn 93 3 clV w S v' w' ∧ S.Perm f ∧ ∀ (i j : Nat) (x y : Flt.Cl), i < j → S[i]? = some x → S[j]? = some y → ¬ y.pre < x.pre := by
  have C := Lib.hid (clone_any h hl)
  have SO := Lib.hid (fun (A B : World) (x : Value) (hx : RowsOwn 93 3 clV A f x B) => asc_sort hx (by omega))
  clear h
  go_enter Tryz.func130, Tryz.ntmps130
  go_wp2_with fail
  refine (C.out).mono ?_
  rintro e w1 ⟨x, rfl, hx⟩
  have HX := Lib.hid hx
  clear hx
  go_wp2_with fail
  refine (SO.out _ _ _ HX.out).mono ?_
  rintro e w2 ⟨rfl, S, hS, hperm, hup⟩
  have HS := Lib.hid hS
  have HP := Lib.hid hperm
  have HU := Lib.hid hup
  clear hS hperm hup
  go_wp2_with fail
  go_ret
  exact ⟨_, S, rfl, HS.out, HP.out, HU.out⟩
theorem encStr_tx (l : List (List UInt8)) : l.flatMap txV = l.map encStr := by
  induction l with
  | nil => rfl
  | cons x l ih => rw [List.flatMap_cons, ih]; rfl
theorem sort_texts {w wr : World} {v : Value} {l : List (List UInt8)} (h : RowsOwn 9 1 txV w l v wr) (hl : l.length ≤ 1000000) :
    Calls Tryz.prog 132 #[v] wr fun e w' => e = .returned (.tuple #[]) ∧ RowsOwn 9 1 txV w (l.mergeSort fun x y => decide (x ≤ y)) v w' := by
  rcases h.1.2 with ⟨rfl, h0⟩ | ⟨g, cap, cur, rfl, hg0, hgb, hgc, hm, hs, ht⟩
  · have hl0 : l = [] := List.eq_nil_of_length_eq_zero h0
    subst hl0
    refine (Any.slices_Sort_string_none Tryz.lays190 none 0 wr).mono ?_
    rintro e w' ⟨rfl, rfl⟩
    exact ⟨rfl, by simpa using h⟩
  · have hb9 : g < wr.heap.size := (Array.getElem?_eq_some_iff.1 hgb).1
    refine (Tryz.slices_Sort_string g 0 cap l wr (holds_of_block hgb (by rw [Nat.mul_one, encStr_tx] at ht; exact ht)) hb9 (by omega)).mono ?_
    rintro e w' ⟨rfl, n, os, rfl⟩
    have hl9 : (l.mergeSort fun x y => decide (x ≤ y)).length = l.length := List.length_mergeSort _
    refine ⟨rfl, ?_, h.2.grown (grownBy_sorted _) h.2.size (fun k hk => by injection hk with hk; omega)⟩
    have ho := ownsRow_sorted (w := wr) (base := w.heap.size) (n := n) (os := os) (ts := l.mergeSort fun x y => decide (x ≤ y)) hl9 hg0 hgb hgc hm (by rw [hs])
    rw [hl9, encStr_tx]
    exact ho
theorem compact_texts {w wr : World} {v : Value} {l : List (List UInt8)} (h : RowsOwn 9 1 txV w l v wr) (hl : l.length ≤ 1000000) (hc : (Lib.compact l).length ≤ l.length) :
    Calls Tryz.prog 133 #[v] wr fun e w' => ∃ v', e = .returned v' ∧ Txs w' (NewIn w w') v' (Lib.compact l) ∧ Below w.heap.size w w' := by
  rcases h.1.2 with ⟨rfl, h0⟩ | ⟨g, cap, cur, rfl, hg0, hgb, hgc, hm, hs, ht⟩
  · have hl0 : l = [] := List.eq_nil_of_length_eq_zero h0
    subst hl0
    refine (Tryz.slices_Compact_string_empty none 0 wr).mono ?_
    rintro e w' ⟨rfl, rfl⟩
    exact ⟨_, rfl, Rws.none _ _ _, h.2⟩
  · refine (Tryz.slices_Compact_string g 0 cap l wr (holds_of_block hgb (by rw [Nat.mul_one, encStr_tx] at ht; exact ht)) (by omega) hgc).mono ?_
    rintro e w' ⟨rfl, q, rfl⟩
    have hlen : (Lib.compact l ++ List.replicate (l.length - (Lib.compact l).length) []).length = l.length := by rw [List.length_append, List.length_replicate]; omega
    have ho := ownsRow_sorted (w := wr) (base := w.heap.size) (n := q) (os := #[]) (ts := Lib.compact l ++ List.replicate (l.length - (Lib.compact l).length) []) (ss := l) hlen hg0 hgb hgc hm (by rw [hs])
    have hgr := grownBy_sorted (w := wr) (g := g) (n := q) (os := #[]) (Lib.compact l ++ List.replicate (l.length - (Lib.compact l).length) []).toArray
    have hgz : ∀ W : World, grow W #[] = W := fun W => by unfold grow; simp
    rw [hgz] at ho hgr
    have hR : RowsOwn 9 1 txV w (Lib.compact l ++ List.replicate (l.length - (Lib.compact l).length) []) (.slice (some ⟨g, 0, none⟩) l.length cap) (putRow encStr (Sort.ahead wr q) g 0 (Lib.compact l ++ List.replicate (l.length - (Lib.compact l).length) []).toArray) :=
      ⟨by rw [hlen, encStr_tx]; exact ho, h.2.grown hgr h.2.size (fun k hk => by injection hk with hk; omega)⟩
    have hrows := hR.rows (fun _ _ => rfl)
    have ht := hrows.take (by rw [hlen]) (Lib.compact l).length (by rw [hlen]; exact hc) cap (by omega)
    rw [List.take_left'  rfl] at ht
    exact ⟨_, rfl, ht, hR.2⟩
theorem pre_take {f : List Flt.Cl} {n : Nat} {c : Flt.Cl} (hc : f[n]? = some c) : (f.take (n + 1)).map (·.pre) = (f.take n).map (·.pre) ++ [c.pre] := by
  obtain ⟨hl, he⟩ := List.getElem?_eq_some_iff.1 hc
  rw [List.take_succ_eq_append_getElem hl, he, List.map_append]
  rfl
theorem flt_prefixes {w : World} {F : Nat → Prop} {v : Value} {f : List Flt.Cl} (h : Cls w F v f) (hl : f.length ≤ 100000) :
    Calls Tryz.prog 103 #[v] w fun e w' => ∃ v', e = .returned v' ∧ Txs w' (NewIn w w') v' (Flt.prefixes f) ∧ Below w.heap.size w w' := by
  obtain ⟨A, cap, rfl, hcap⟩ := h.parts
  obtain ⟨i0, hi0, hz0, hz1, hz2⟩ := info_parts strInfo
  have H := Lib.hid h
  have hl' : (f.length : Int) ≤ 100000 := by omega
  have SO : Hid (∀ (B : World) (x : Value), RowsOwn 9 1 txV w (f.map (·.pre)) x B → Calls Tryz.prog 132 #[x] B fun e w' => e = .returned (.tuple #[]) ∧ RowsOwn 9 1 txV w ((f.map (·.pre)).mergeSort fun x y => decide (x ≤ y)) x w') := Lib.hid (fun B x hx => sort_texts hx (by rw [List.length_map]; omega))
  have CO : Hid (∀ (B : World) (x : Value), RowsOwn 9 1 txV w ((f.map (·.pre)).mergeSort fun x y => decide (x ≤ y)) x B → Calls Tryz.prog 133 #[x] B fun e w' => ∃ v', e = .returned v' ∧ Txs w' (NewIn w w') v' (Flt.prefixes f) ∧ Below w.heap.size w w') := Lib.hid (fun B x hx => by
    have := compact_texts hx (by rw [List.length_mergeSort, List.length_map]; omega) (by rw [Flt.prefixes_sorted, List.length_mergeSort, List.length_map]; exact Flt.prefixes_len f)
    rwa [Flt.prefixes_sorted] at this)
  clear h
  go_enter Tryz.func103, Tryz.ntmps103
  go_wp2_with fail
  go_loopw [3, 5, 8] (fun out _ i wr => ∃ n : Nat, n ≤ f.length ∧ i = .int .i64 (n : Int) ∧ RowsOwn 9 1 txV w ((f.take n).map (·.pre)) out wr) (fun _ _ i _ => f.length - (intOf i).toNat)
  case atStart => exact ⟨0, Nat.zero_le _, rfl, RowsOwn.start _ _ _ w⟩
  case round =>
    obtain ⟨n, hn, rfl, hown⟩ := hrel
    by_cases hlt : n < f.length
    · obtain ⟨b, o, cap', e, -, -, hb⟩ := H.out.block (by omega)
      injection e with e1 e2 e3
      subst e1 e3
      clear e2
      obtain ⟨x, hx⟩ : ∃ x, f[n]? = some x := ⟨_, List.getElem?_eq_getElem hlt⟩
      have hn0 : (0 : Int) ≤ (n : Int) := by omega
      have hn1 : (n : Int) < (f.length : Int) := by omega
      have CA : Hid (∀ W, Below w.heap.size w W → W.cell? ⟨b, o + n * 3, none⟩ = some (.string (mk x.pre)) ∧ W.cell? ⟨b, o + n * 3 + 1, none⟩ = some (.int .i64 x.lo) ∧ W.cell? ⟨b, o + n * 3 + 2, none⟩ = some (.int .i64 x.hi)) := Lib.hid (fun W hW => Cls.at (H.out.below hW) hx)
      obtain ⟨c0, c1, c2⟩ := CA.out wr hown.2
      have hst := Lib.hid (pre_take hx)
      have hlen3 : ((f.take n).map (·.pre)).length ≤ n := by rw [List.length_map]; exact Flt.len_take f
      obtain ⟨xp, x1, x2⟩ := x
      simp only at c0 c1 c2
      have hst : Hid ((f.take (n + 1)).map (·.pre) = (f.take n).map (·.pre) ++ [xp]) := hst
      have hba : Below wr.heap.size wr (wr.alloc (.cells #[.string (mk xp), .int .i64 x1, .int .i64 x2] 93)) := (Below.refl _ _).alloc (Nat.le_refl _) _
      have Hown := Lib.hid (hown.below hba)
      clear hown hx hba CA
      generalize (f.take n).map (·.pre) = out at *
      have Hown2 := Hown
      have hown3 := Hown2.out.1.alloc (.cells #[.string (mk xp)] 9)
      have hmade := tx_made (wr.alloc (.cells #[.string (mk xp), .int .i64 x1, .int .i64 x2] 93)) 9 xp
      have hz1 : (wr.alloc (.cells #[.string (mk xp), .int .i64 x1, .int .i64 x2] 93)).heap.size = wr.heap.size + 1 := by simp
      rw [hz1] at hmade
      have hsz3 : w.heap.size ≤ ((wr.alloc (.cells #[.string (mk xp), .int .i64 x1, .int .i64 x2] 93)).alloc (.cells #[.string (mk xp)] 9)).heap.size := by have := Hown2.out.2.size; simp at this ⊢; omega
      clear hz1
      go_wp2_with (at_builtin; refine wp_joins (f := txV) (k := 1) rfl _ _ 85 rfl w.heap.size 9 i0 (.string ⟨#[]⟩) 16 Tryz.underlying85 hi0 hz0 hz1 hz2 rfl (by decide) rfl rfl hown3 hmade (fun _ _ => rfl) (fun x _ => tx_one x) ?c3 ?c4 hsz3 ?_)
      case c3 => unfold maxLen; first | omega | (simp <;> omega)
      case c4 => first | omega | (simp <;> omega)
      intro v3 w3 h1 h2 _
      have hnew := Lib.hid (Hown2.out.more (x := xp) (v' := v3) (by simpa [txV] using h1) h2)
      clear h1 h2 hown3 hmade
      go_wp2_with fail
      exact ⟨⟨n + 1, by omega, by go_num, by rw [hst.out]; exact hnew.out⟩, by show f.length - ((n : Int) + 1).toNat < f.length - (n : Int).toNat; omega⟩
    · obtain rfl : n = f.length := by omega
      rw [List.take_length] at hown
      have Hown := Lib.hid hown
      clear hown
      go_wp2_with fail
      refine (SO.out _ _ Hown.out).mono ?_
      rintro e w2 ⟨rfl, hs⟩
      have HS := Lib.hid hs
      clear hs
      go_wp2_with fail
      refine (CO.out _ _ HS.out).mono ?_
      rintro e w3 ⟨v3, rfl, hv3, hb3⟩
      have HV := Lib.hid hv3
      have HB := Lib.hid hb3
      clear hv3 hb3
      go_wp2_with fail
      go_ret
      exact ⟨_, rfl, HV.out, HB.out⟩
end Go.Proofs.YtpmolinmopgbdaaGreat
