import Derived.Test.YtpmolinmopgbdaaGreatCom41
import Derived.Test.YtpmolinmopgbdaaGreatCom15
import Derived.Test.YtpmolinmopgbdaaGreatCom26
import Derived.Test.YtpmolinmopgbdaaGreatCom12
import Derived.Test.YtpmolinmopgbdaaGreatCom10
import Derived.Test.YtpmolinmopgbdaaGreatCom35
import Derived.Test.YtpmolinmopgbdaaGreatCom40
import Derived.Shelf.SlSortCmp.NoneTotal
import Derived.Great.Walk
import Derived.Shelf.SlSortCmp.QuietGrown
set_option maxRecDepth 100000
set_option linter.unusedVariables false
set_option linter.unusedSimpArgs false
set_option maxHeartbeats 12800000
namespace Go.Proofs.YtpmolinmopgbdaaGreat
open List renaming getElem_toArray → z1, getElem_cons_zero → z2, getElem_cons_succ → z3, setIfInBounds_toArray → z4, set_cons_zero → z5, set_cons_succ → z6
open Go.RowKit Go.Shelf Go.Lib Go.Sort
theorem lt_order (x y : Ver.V) : ltOf Ver.order x y = decide (Ver.Before x y) := by
  unfold ltOf Ver.order
  by_cases h : x = y
  · subst h; simp [Ver.before_irrefl]
  · by_cases h2 : Ver.Before x y <;> simp [h, h2]
theorem swo_order : SWO (ltOf Ver.order) where
  irrefl x := by rw [lt_order]; exact decide_eq_false (Ver.before_irrefl x)
  trans x y z h1 h2 := by
    rw [lt_order] at *
    exact decide_eq_true (Ver.before_trans (of_decide_eq_true h1) (of_decide_eq_true h2))
  ntrans x y z h1 h2 := by
    rw [lt_order] at *
    have k1 := of_decide_eq_false h1
    have k2 := of_decide_eq_false h2
    exact decide_eq_false (by unfold Ver.Before at *; omega)
theorem compact_sort {S : List Ver.V} (h : ∀ (i j : Nat) (x y : Ver.V), i < j → S[i]? = some x → S[j]? = some y → ¬ Ver.Before y x) : Ver.Up (Lib.compact S) ∧ ∀ x, x ∈ Lib.compact S ↔ x ∈ S := by
  have at_ : ∀ i, i < S.length → S[i]? = some S.toArray[i]! := fun i hi => by
    have := getI_to S.toArray (i := i) (by simpa using hi)
    simpa using this
  constructor
  · unfold Ver.Up Lib.compact Lib.compactUpTo
    rw [List.pairwise_map]
    have hr : List.Pairwise (fun a b => a < b ∧ b < S.length) (List.range S.length) := by
      have h1 : List.Pairwise (fun a b : Nat => a < b) (List.range S.length) := List.pairwise_lt_range
      refine List.Pairwise.imp_of_mem (fun {a b} ha hb hab => ⟨hab, List.mem_range.1 hb⟩) h1
    have hf := hr.filter (Lib.keeps S.toArray)
    refine List.Pairwise.imp_of_mem (fun {a b} ha hb hab => ?_) hf
    obtain ⟨hab, hbl⟩ := hab
    have hk := (List.mem_filter.1 hb).2
    have hne : S.toArray[b]! ≠ S.toArray[b - 1]! := by
      have := of_decide_eq_true hk
      rcases this with h0 | h0
      · omega
      · exact h0
    have q1 := h (b - 1) b _ _ (by omega) (at_ _ (by omega)) (at_ _ hbl)
    have q2 := h a b _ _ hab (at_ _ (by omega)) (at_ _ hbl)
    by_cases e : S.toArray[a]! = S.toArray[b]!
    · exfalso
      have q3 : ¬ Ver.Before S.toArray[b - 1]! S.toArray[b]! := by
        rcases Nat.lt_or_ge a (b - 1) with hlt | hge
        · have := h a (b - 1) _ _ hlt (at_ _ (by omega)) (at_ _ (by omega))
          rwa [e] at this
        · have : a = b - 1 := by omega
          subst this
          rw [e]; exact Ver.before_irrefl _
      rcases Ver.before_or hne with k | k
      · exact q1 k
      · exact q3 k
    · exact (Ver.before_or e).resolve_right q2
  · intro x
    unfold Lib.compact Lib.compactUpTo
    rw [List.mem_map]
    constructor
    · rintro ⟨i, hi, rfl⟩
      have hi := List.mem_range.1 (List.mem_filter.1 hi).1
      exact List.mem_of_getElem? (at_ i hi)
    · intro hx
      obtain ⟨i, hi⟩ := List.getElem?_of_mem hx
      have hil : i < S.length := (List.getElem?_eq_some_iff.1 hi).1
      have hxi : S.toArray[i]! = x := getI_of hi
      clear hi
      induction i with
      | zero => exact ⟨0, List.mem_filter.2 ⟨List.mem_range.2 hil, Lib.keeps_lt_one _ 0 (by omega)⟩, hxi⟩
      | succ i ih =>
        by_cases hk : S.toArray[i + 1]! = S.toArray[i]!
        · exact ih (by omega) (by rw [← hxi, hk])
        · exact ⟨i + 1, List.mem_filter.2 ⟨List.mem_range.2 hil, Lib.keeps_pos (by simpa using hk)⟩, hxi⟩
theorem ver_clone {w : World} {F : Nat → Prop} {v : Value} {l : List Ver.V} (h : Vrs w F v l) (hl : l.length ≤ 1000000) :
    Calls Tryz.prog 136 #[v] w fun e w' => ∃ v', e = .returned v' ∧ RowsOwn 27 2 verV w l v' w' := by
  obtain ⟨i0, hi0, hz0, hz1, hz2⟩ := ver_parts verInfo
  have hb0 : Below w.heap.size w (w.alloc (.cells #[] 27)) := (Below.refl _ _).alloc (Nat.le_refl _) _
  have hr := h.below hb0
  have h0own : (w.alloc (.cells #[] 27)).ownsRow w.heap.size 27 2 (.slice (some ⟨w.heap.size, 0, none⟩) 0 0) 0 [] := World.ownsRow_made w #[] 0 (Nat.le_refl _) (by decide) rfl
  obtain ⟨A, cap, rfl, hcap, hat⟩ := h
  have q22 : ∀ (w : World) (a : Option Addr) (n c n' c' : Nat), (binOp .eql 40 (.slice a n c) (.slice none n' c')).run Tryz.prog w = .ok (.bool a.isNone) w := fun w a n c n' c' => Lib.run_eql_slice_nil w _ _ a n c n' c' Tryz.underlying40
  cases A with
  | none =>
    have h0 : l.length = 0 := Nat.eq_zero_of_not_pos (fun hp => by obtain ⟨b, o, e, -⟩ := hat hp; cases e)
    have hf : l = [] := List.eq_nil_of_length_eq_zero h0
    subst hf
    clear hr hat
    go_enter Tryz.func136, Tryz.ntmps136
    go_wp2_with fail
    go_ret
    exact ⟨_, rfl, RowsOwn.start _ _ _ w⟩
  | some ad =>
    clear hat
    go_enter Tryz.func136, Tryz.ntmps136
    go_wp2_with (at_builtin; refine wp_joins (f := verV) (k := 2) rfl _ _ 40 rfl w.heap.size 27 i0 (.agg #[.int .i64 0, .int .i64 0]) 16 Tryz.underlying40 hi0 hz0 hz1 hz2 rfl (by decide) rfl rfl h0own hr (fun _ _ => rfl) (fun x _ => ver_one x) ?a1 ?a2 ?a3 ?_)
    case a1 => unfold maxLen; omega
    case a2 => omega
    case a3 => simp
    intro v2 w2 own2 hg2 _
    have F2 := Lib.hid (RowsOwn.front (l := l) (f := verV) (k := 2) (t := 27) hg2 (by rw [Nat.zero_add, List.nil_append]; exact own2))
    clear own2 hg2 hr h0own
    go_wp2_with fail
    go_ret
    exact ⟨_, rfl, F2.out⟩
theorem ver_sortfn {w wr : World} {v : Value} {l : List Ver.V} (h : RowsOwn 27 2 verV w l v wr) (hl : l.length ≤ 1000000) :
    Calls Tryz.prog 137 #[v, .func (.func 138) #[] #[]] wr fun e w' => e = .returned (.tuple #[]) ∧ ∃ S : List Ver.V, RowsOwn 27 2 verV w S v w' ∧ S.Perm l ∧ ∀ (i j : Nat) (x y : Ver.V), i < j → S[i]? = some x → S[j]? = some y → ¬ Ver.Before y x := by
  rcases Nat.eq_zero_or_pos l.length with h0 | h0
  · have hl0 : l = [] := List.eq_nil_of_length_eq_zero h0
    subst hl0
    obtain ⟨A, cap, e, -⟩ := (h.rows (fun _ _ => rfl)).parts
    rw [List.length_nil] at e
    subst e
    refine (AnyF.slices_SortFunc_none (P := Tryz.prog) (ρ := Tryz.sortVr_ren) { Tryz.sortVr with } A cap _ wr).mono ?_
    rintro e w' ⟨rfl, rfl⟩
    exact ⟨rfl, [], h, List.Perm.refl _, fun i j x y _ hx _ => by simp at hx⟩
  · obtain ⟨g, cap, rfl, hg0, hgl⟩ := h.1.form (by omega)
    have eg : ∀ args w, (callFunc 138 args).run Tryz.prog w = .ok (.enter 138 args) w := enters_of Tryz.func138 (by kernel_rfl) rfl
    have hcon := AnyQ.slices_SortFunc Tryz.sortVr 2 Tryz.isAgg27 Tryz.sizeOf27 verV ver_len ver_one Ver.order swo_order 138 #[] g 0 cap l.toArray wr eg (fun _ _ _ _ x y => ver_order _ x y) (own_holds ver_len (by decide) h.1) hgl (by simp; omega)
    refine hcon.mono ?_
    rintro e w' ⟨rfl, d, n, os, hp, hs, rfl⟩
    obtain ⟨hperm, hsz⟩ := perm_list hp
    refine ⟨rfl, d.toList, h.sorted ver_len (by decide) hsz, hperm, fun i j x y hij hx hy => ?_⟩
    rw [Array.getElem?_toList] at hx hy
    obtain ⟨hi, ex⟩ := Array.getElem?_eq_some_iff.1 hx
    obtain ⟨hj, ey⟩ := Array.getElem?_eq_some_iff.1 hy
    have hlt := hs i j (Nat.zero_le _) hij (by simpa [hsz] using hj)
    rw [lt_order, getElem!_pos d i hi, getElem!_pos d j hj, ex, ey] at hlt
    exact of_decide_eq_false hlt
theorem ver_sort {w : World} {F : Nat → Prop} {v : Value} {l : List Ver.V} (h : Vrs w F v l) (hl : l.length ≤ 1000000) :
    Calls Tryz.prog 108 #[v] w fun e w' => ∃ v', e = .returned v' ∧ RowsOwn 27 2 verV w (Ver.sort l) v' w' := by
  have C := Lib.hid (ver_clone h hl)
  have SO := Lib.hid (fun (B : World) (x : Value) (hx : RowsOwn 27 2 verV w l x B) => ver_sortfn hx hl)
  have CO := Lib.hid (fun (B : World) (x : Value) (S : List Ver.V) (hs : S.length ≤ 1000000) (hx : RowsOwn 27 2 verV w S x B) => ver_compact hx hs)
  clear h
  go_enter Tryz.func108, Tryz.ntmps108
  go_wp2_with fail
  refine (C.out).mono ?_
  rintro e w1 ⟨x, rfl, hx⟩
  have HX := Lib.hid hx
  clear hx
  go_wp2_with fail
  refine (SO.out _ _ HX.out).mono ?_
  rintro e w2 ⟨rfl, S, hS, hperm, hup⟩
  have HS := Lib.hid hS
  have hSl : S.length ≤ 1000000 := by rw [hperm.length_eq]; exact hl
  have hfin : Hid (Ver.sort l = Lib.compact S) := Lib.hid (by
    obtain ⟨h1, h2⟩ := compact_sort hup
    exact Ver.sort_is h1 (fun x => (h2 x).trans hperm.mem_iff))
  clear hS hperm hup
  go_wp2_with fail
  refine (CO.out _ _ _ hSl HS.out).mono ?_
  rintro e w3 ⟨v3, rfl, h3⟩
  have H3 := Lib.hid h3
  clear h3
  go_wp2_with fail
  go_ret
  exact ⟨_, rfl, by rw [hfin.out]; exact H3.out⟩
end Go.Proofs.YtpmolinmopgbdaaGreat
namespace Go.Proofs.YtpmolinmopgbdaaGreat
open Go.RowKit Go.Sort
end Go.Proofs.YtpmolinmopgbdaaGreat
namespace Go.Proofs.YtpmolinmopgbdaaGreat
open Go.RowKit Go.Sort
theorem vers_ok : VersOk where
  check := fun v h => ver_check _ v h
  before := fun a b => ver_before _ a b
  sort := fun h hl => (ver_sort h hl).mono (fun e w' ⟨v', he, hr⟩ => ⟨v', he, hr.rows (fun _ _ => rfl), hr.2⟩)
end Go.Proofs.YtpmolinmopgbdaaGreat
namespace Go.Proofs.YtpmolinmopgbdaaGreat
theorem iset_ok : IsetOk := iset_of_vers vers_ok
end Go.Proofs.YtpmolinmopgbdaaGreat
namespace Go.Proofs.YtpmolinmopgbdaaGreat
open List renaming getElem_toArray → z1, getElem_cons_zero → z2, getElem_cons_succ → z3, setIfInBounds_toArray → z4, set_cons_zero → z5, set_cons_succ → z6
open Go.RowKit Go.Sort
def Vec.zip (g : Int → Int → Int) (x y : List Int) : List Int := Vec.make fun i => g ((x[i]?).getD 0) ((y[i]?).getD 0)
theorem Vec.zip_join (a b : List Int) : Vec.zip max (Vec.clean a) (Vec.clean b) = Vec.join a b := Vec.make_ext (fun i hi => by rw [Vec.clean_get a hi, Vec.clean_get b hi]; rfl)
theorem run_callFunc_own {P : Program} {f : FuncId} (h : (P.funcs[f]?).map (fun fn => (fn.name == "runtime.NumGoroutine", fn.body.isNone)) = some (false, false)) (args : Array Value) (w : World) : (callFunc f args).run P w = .ok (.enter f args) w := by
  cases hf : P.funcs[f]? with
  | none => rw [hf] at h; cases h
  | some fn =>
    rw [hf] at h
    simp only [Option.map_some, Option.some.injEq, Prod.mk.injEq] at h
    have h1 : fn.name ≠ "runtime.NumGoroutine" := by simpa using h.1
    have h2 : fn.body ≠ none := fun e => by rw [e] at h; cases h.2
    simp [callFunc, hf, h1, h2]
def Takes (fn : FuncId) (g : Int → Int → Int) : Prop := ((Tryz.prog.funcs[fn]?).map (fun f => (f.name == "runtime.NumGoroutine", f.body.isNone)) = some (false, false)) ∧ ∀ (W : World) (m n : Int), Calls Tryz.prog fn #[.int .i64 m, .int .i64 n] W fun e w' => e = .returned (.int .i64 (g m n)) ∧ Laid W w'
theorem takes_max : Takes 107 max := by
  refine ⟨by kernel_rfl, fun W m n => ?_⟩
  have L := Lib.hid (Laid.refl W)
  by_cases h : m < n
  · have e : Hid (max m n = n) := Lib.hid (by omega)
    go_enter Tryz.func107, Tryz.ntmps107
    go_wp2_with fail
    go_ret
    exact ⟨by rw [e.out]; rfl, L.out⟩
  · have e : Hid (max m n = m) := Lib.hid (by omega)
    go_enter Tryz.func107, Tryz.ntmps107
    go_wp2_with fail
    go_ret
    exact ⟨by rw [e.out]; rfl, L.out⟩
theorem vec_zip {w : World} {ba bb : Nat} {x y : List Int} {fn : FuncId} {g : Int → Int → Int} (tk : Takes fn g) (hx : VRow w ba x) (hy : VRow w bb y) : Calls Tryz.prog 135 #[.func (.func fn) #[] #[], .pointer (some ⟨ba, 0, none⟩), .pointer (some ⟨bb, 0, none⟩)] w fun e w' => e = .returned (vecA (Vec.zip g x y)) ∧ Laid w w' := by
  have hz := vecZero
  have hb1 : VRow ((w.alloc (.cells (vecR Vec.zeros) 39)).alloc (.cells (vecR Vec.zeros) 39)) w.heap.size Vec.zeros := (VRow.made w Vec.zeros_len).alloc _
  have hb2 : VRow ((w.alloc (.cells (vecR Vec.zeros) 39)).alloc (.cells (vecR Vec.zeros) 39)) (w.heap.size + 1) Vec.zeros := by
    have := VRow.made (w.alloc (.cells (vecR Vec.zeros) 39)) (v := Vec.zeros) Vec.zeros_len
    rwa [World.size_alloc] at this
  have HL0 : Hid (Laid w ((w.alloc (.cells (vecR Vec.zeros) 39)).alloc (.cells (vecR Vec.zeros) 39))) := Lib.hid ((Laid.new w _).alloc _)
  have HB1 := Lib.hid hb1
  have HB2 := Lib.hid hb2
  have HX := Lib.hid hx
  have HY := Lib.hid hy
  have TK := Lib.hid tk.2
  have hcf := run_callFunc_own tk.1
  clear hx hy hb1 hb2 tk
  go_enter Tryz.func135, Tryz.ntmps135
  go_wp2_with fail
  go_loopw [7] (fun i wr => ∃ k : Nat, k ≤ 65 ∧ i = .int .i64 (k : Int) ∧ VRow wr w.heap.size Vec.zeros ∧ VRow wr (w.heap.size + 1) (Vec.part (fun i => g ((x[i]?).getD 0) ((y[i]?).getD 0)) Vec.zeros k) ∧ Laid w wr) (fun i _ => 65 - (intOf i).toNat)
  case atStart => exact ⟨0, Nat.zero_le _, rfl, HB1.out, by rw [Vec.part_zero]; exact HB2.out, HL0.out⟩
  case round =>
    obtain ⟨k, hk, rfl, h1, h2, h3⟩ := hrel
    by_cases hlt : k < 65
    · obtain ⟨m, hm⟩ : ∃ n, x[k]? = some n := ⟨_, List.getElem?_eq_getElem (by rw [HX.out.len]; exact hlt)⟩
      obtain ⟨n, hn⟩ : ∃ n, y[k]? = some n := ⟨_, List.getElem?_eq_getElem (by rw [HY.out.len]; exact hlt)⟩
      have had := fun b => vec_addr hlt b
      have hk0 : (0 : Int) ≤ (k : Int) := by omega
      have hk1 : (k : Int) < 65 := by omega
      have XC := Lib.hid (show ∀ W, Laid wr W → W.cell? ⟨ba, k, none⟩ = some (.int .i64 m) ∧ W.cell? ⟨bb, k, none⟩ = some (.int .i64 n) from fun W hW => ⟨(HX.out.below (h3.trans hW).below HX.out.inHeap).at hm, (HY.out.below (h3.trans hW).below HY.out.inHeap).at hn⟩)
      have e : Hid ((Vec.part (fun i => g ((x[i]?).getD 0) ((y[i]?).getD 0)) Vec.zeros k).set k (g m n) = Vec.part (fun i => g ((x[i]?).getD 0) ((y[i]?).getD 0)) Vec.zeros (k + 1)) := Lib.hid (by
        rw [← Vec.part_set _ Vec.zeros_len hlt, hm, hn]; rfl)
      have hz0 : Vec.zeros[k]? = some 0 := List.getElem?_replicate .. |>.trans (if_pos hlt)
      have hpk : (Vec.part (fun i => g ((x[i]?).getD 0) ((y[i]?).getD 0)) Vec.zeros k)[k]? = some 0 := by rw [Vec.part_ge _ _ (by omega) (Nat.le_refl k)]; exact hz0
      have Hpk := Lib.hid hpk
      have H1 := Lib.hid h1
      have H2 := Lib.hid h2
      have H3 := Lib.hid h3
      clear h1 h2 h3 hm hn hz0 hpk
      go_wp2_with fail
      refine wp_region_tail (n := 9) (S := (fun w' : World => Laid wr w')) (by kernel_rfl) (by kernel_rfl) (by rfl) ((Laid.refl wr).drew) (fun hHeld => ?_)
      refine wpAnyH_td (i := 0) rfl ?_
      simp only [Act.put, z1, z2, z3, z4, z5, z6]
      refine wpAnyH_td (i := 1) rfl ?_
      simp only [Act.put, z1, z2, z3, z4, z5, z6]
      refine wpAnyH_td (i := 2) rfl ?_
      simp only [Act.put, z1, z2, z3, z4, z5, z6]
      refine wpAnyH_td (i := 3) rfl ?_
      simp only [Act.put, z1, z2, z3, z4, z5, z6]
      refine wpAnyH_tk (i := 4) (v := ?_) rfl (Or.inl ⟨by rfl, (by intro w hSw; obtain ⟨d0, d1⟩ := XC.out _ hSw; go_simp; try with_reducible rfl)⟩) (by assumption) ?_
      simp only [Act.put, z1, z2, z3, z4, z5, z6]
      refine wpAnyH_td (i := 5) rfl ?_
      simp only [Act.put, z1, z2, z3, z4, z5, z6]
      refine wpAnyH_td (i := 6) rfl ?_
      simp only [Act.put, z1, z2, z3, z4, z5, z6]
      refine wpAnyH_tk (i := 7) (v := ?_) rfl (Or.inl ⟨by rfl, (by intro w hSw; obtain ⟨d0, d1⟩ := XC.out _ hSw; go_simp; try with_reducible rfl)⟩) (by assumption) ?_
      simp only [Act.put, z1, z2, z3, z4, z5, z6]
      refine wpAnyH_ready (rs := [8]) (by kernel_rfl) (by simp) ?_
      refine AllReadyH.cons rfl (fun K hK => ?_) AllReadyH.nil
      go_simp
      refine (TK.out _ _ _).mono ?_
      rintro e w8 ⟨rfl, h8⟩
      have hL := Laid.trans hHeld h8
      have c8 := (H2.out.below hL.below H2.out.inHeap).at Hpk.out
      have f8 := (H2.out.below hL.below H2.out.inHeap).free k
      have H8 : Hid (Laid wr w8) := Lib.hid hL
      have H2w := Lib.hid (H2.out.below hL.below H2.out.inHeap)
      clear h8
      refine hK.out _ _ hL (fun hHeld => ?_)
      clear hK K
      refine wpAnyH_done (by kernel_rfl) ?_ _
      refine wpAny_of_held (S := fun _ => True) _ _ _ _ ?_
      have hHeld : True := trivial
      refine wpAnyH_td (i := 9) rfl ?_
      simp only [Act.put, z1, z2, z3, z4, z5, z6]
      refine wpAnyH_ready (rs := [10]) (by kernel_rfl) (by simp) ?_
      refine AllReadyH.cons rfl (fun K hK => ?_) AllReadyH.nil
      go_simp
      refine hK.out _ _ trivial (fun hHeld => ?_)
      clear hK K
      refine wpAnyH_done (by kernel_rfl) ?_ _
      have h2 := H2w.out.stored k (g m n)
      rw [e.out] at h2
      have H2n := Lib.hid h2
      have H1n := Lib.hid ((H1.out.below H8.out.below H1.out.inHeap).storedElsewhere (p := ⟨w.heap.size + 1, k, none⟩) (by show w.heap.size + 1 ≠ w.heap.size; omega) (.int .i64 (g m n)))
      have H3n := Lib.hid ((H3.out.trans H8.out).stored (p := ⟨w.heap.size + 1, k, none⟩) (Nat.le_succ _) (.int .i64 (g m n)))
      clear h2 c8 f8
      go_wp2_with fail
      exact ⟨⟨k + 1, by omega, rfl, H1n.out, H2n.out, H3n.out⟩, by show 65 - ((k : Int) + 1).toNat < 65 - (k : Int).toNat; omega⟩
    · obtain rfl : k = 65 := by omega
      rw [Vec.part_all _ Vec.zeros_len] at h2
      have H1 := Lib.hid h1
      have H2 := Lib.hid h2
      have H3 := Lib.hid h3
      have Hc : Hid ((Vec.zip g x y).length = 65) := Lib.hid (Vec.make_len _)
      clear h1 h2 h3
      go_wp2_with (first | refine wpList_vload (v := Vec.zip g x y) (by rfl) _ (by rfl) (by rfl) H2.out ?_ | refine wpList_vstore (by rfl) _ _ (by rfl) (by rfl) (by rfl) H1.out Hc.out ?_)
      exact bodyPost_ret (v := vecA (Vec.zip g x y)) (results_cell_row (by rfl) _ _ w.heap.size 39 _ (0, 0) _ (by rfl) (H1.out.set _ Hc.out).row Tryz.underlying39 rfl (vecSize Hc.out)) rfl ⟨rfl, H3.out.set (Nat.le_refl _) _⟩
theorem vec_joiner (w : World) {a b : List Int} (ha : a.length = 65) (hb : b.length = 65) : Calls Tryz.prog 106 #[vecA a, vecA b] w fun e w' => e = .returned (.func (.func 135) #[] #[.pointer (some ⟨w.heap.size, 0, none⟩), .pointer (some ⟨w.heap.size + 1, 0, none⟩)]) ∧ VRow w' w.heap.size (Vec.clean a) ∧ VRow w' (w.heap.size + 1) (Vec.clean b) ∧ Laid w w' := by
  have CA := Lib.hid (fun W => vec_clean W ha)
  have CB := Lib.hid (fun W => vec_clean W hb)
  have hla : (Vec.clean a).length = 65 := Vec.clean_len a
  have hlb : (Vec.clean b).length = 65 := Vec.clean_len b
  have r0 : VRow ((w.alloc (.cells (vecR a) 39)).alloc (.cells (vecR b) 39)) w.heap.size a := (VRow.made w ha).alloc _
  have r1 : VRow ((w.alloc (.cells (vecR a) 39)).alloc (.cells (vecR b) 39)) (w.heap.size + 1) b := by
    have := VRow.made (w.alloc (.cells (vecR a) 39)) hb
    rwa [World.size_alloc] at this
  have hL : Laid w ((w.alloc (.cells (vecR a) 39)).alloc (.cells (vecR b) 39)) := (Laid.new w _).alloc _
  have hsz : ((w.alloc (.cells (vecR a) 39)).alloc (.cells (vecR b) 39)).heap.size = w.heap.size + 1 + 1 := by simp
  have R0 := Lib.hid r0
  have R1 := Lib.hid r1
  have HL := Lib.hid hL
  have HA := Lib.hid hla
  have HB := Lib.hid hlb
  clear r0 r1 hL hla hlb ha hb hsz
  go_enter Tryz.func106, Tryz.ntmps106
  go_wp2_with fail
  generalize (w.alloc (.cells (vecR a) 39)).alloc (.cells (vecR b) 39) = W0 at *
  refine wp_region_tail (n := 4) (S := (fun w' : World => Laid W0 w')) (by kernel_rfl) (by kernel_rfl) (by rfl) ((Laid.refl W0).drew) (fun hHeld => ?_)
  refine wpAnyH_tk (i := 0) (v := vecA a) rfl (Or.inl ⟨by rfl, (by intro w hSw; exact exec_vload (by rfl) (by rfl) (R0.out.below (Laid.below hSw) R0.out.inHeap))⟩) (by assumption) ?_
  simp only [Act.put, z1, z2, z3, z4, z5, z6]
  refine wpAnyH_tk (i := 2) (v := vecA b) rfl (Or.inl ⟨by rfl, (by intro w hSw; exact exec_vload (by rfl) (by rfl) (R1.out.below (Laid.below hSw) R1.out.inHeap))⟩) (by assumption) ?_
  simp only [Act.put, z1, z2, z3, z4, z5, z6]
  refine wpAnyH_ready (rs := [1]) (by kernel_rfl) (by simp) ?_
  refine AllReadyH.cons rfl (fun K hK => ?_) AllReadyH.nil
  go_simp
  go_at_call 97
  refine (CA.out _).mono ?_
  rintro e w8 ⟨rfl, h8⟩
  have hL := Laid.trans hHeld h8
  refine hK.out _ _ hL (fun hHeld => ?_)
  clear h8 hL
  clear hK K
  refine wpAnyH_ready (rs := [3]) (by kernel_rfl) (by simp) ?_
  refine AllReadyH.cons rfl (fun K hK => ?_) AllReadyH.nil
  go_simp
  go_at_call 97
  refine (CB.out _).mono ?_
  rintro e w9 ⟨rfl, h8⟩
  have hL := Laid.trans hHeld h8
  have L9 : Hid (Laid W0 w9) := Lib.hid hL
  have Q0 := Lib.hid (R0.out.below L9.out.below R0.out.inHeap)
  have Q1 := Lib.hid ((R1.out.below L9.out.below R1.out.inHeap).setElsewhere (c := w.heap.size) (by omega) (vecR (Vec.clean a)))
  refine hK.out _ _ hL (fun hHeld => ?_)
  clear h8 hL
  clear hK K
  refine wpAnyH_done (by kernel_rfl) ?_ _
  refine wpAny_of_held (S := fun _ => True) _ _ _ _ ?_
  have hHeld : True := trivial
  refine wpAnyH_ready (rs := [4]) (by kernel_rfl) (by simp) ?_
  refine AllReadyH.cons rfl (fun K hK => ?_) AllReadyH.nil
  refine step_vstore (.tmp 2) (.tmp 6) rfl (by rfl) (by rfl) (by rfl) Q0.out HA.out ?_
  refine hK.out _ _ trivial (fun hHeld => ?_)
  clear hK K
  refine wpAnyH_ready (rs := [5]) (by kernel_rfl) (by simp) ?_
  refine AllReadyH.cons rfl (fun K hK => ?_) AllReadyH.nil
  refine step_vstore (.tmp 3) (.tmp 8) rfl (by rfl) (by rfl) (by rfl) Q1.out HB.out ?_
  have F0 := Lib.hid ((Q0.out.set _ HA.out).setElsewhere (c := w.heap.size + 1) (by omega) (vecR (Vec.clean b)))
  have F1 := Lib.hid (Q1.out.set _ HB.out)
  have F2 := Lib.hid (((HL.out.trans L9.out).set (Nat.le_refl _) (vecR (Vec.clean a))).set (b := w.heap.size + 1) (Nat.le_succ _) (vecR (Vec.clean b)))
  refine hK.out _ _ trivial (fun hHeld => ?_)
  clear hK K
  refine wpAnyH_done (by kernel_rfl) ?_ _
  go_wp2_with fail
  go_ret
  exact ⟨rfl, F0.out, F1.out, F2.out⟩
theorem vec_join (w : World) {a b : List Int} (ha : a.length = 65) (hb : b.length = 65) : Calls Tryz.prog 69 #[vecA a, vecA b] w fun e w' => e = .returned (vecA (Vec.join a b)) ∧ Laid w w' := by
  have hz := vecZero
  have JO := Lib.hid (fun W => vec_joiner W ha hb)
  have start : ∃ W, W = ((w.alloc (.cells (vecR a) 39)).alloc (.cells (vecR b) 39)).alloc (.cells (vecR Vec.zeros) 39) ∧ VRow W w.heap.size a ∧ VRow W (w.heap.size + 1) b ∧ VRow W (w.heap.size + 1 + 1) Vec.zeros ∧ Laid w W := by
    refine ⟨_, rfl, ((VRow.made w ha).alloc _).alloc _, ?_, ?_, ((Laid.new w _).alloc _).alloc _⟩
    · have := (VRow.made (w.alloc (.cells (vecR a) 39)) hb).alloc (.cells (vecR Vec.zeros) 39)
      rwa [World.size_alloc] at this
    · have := VRow.made ((w.alloc (.cells (vecR a) 39)).alloc (.cells (vecR b) 39)) (v := Vec.zeros) Vec.zeros_len
      rwa [World.size_alloc, World.size_alloc] at this
  obtain ⟨W, hW, r0, r1, r2, hL⟩ := start
  have HW := Lib.hid hW
  have R0 := Lib.hid r0
  have R1 := Lib.hid r1
  have R2 := Lib.hid r2
  have HL := Lib.hid hL
  have HJ := Lib.hid (Vec.zip_join a b)
  have Hc : Hid ((Vec.join a b).length = 65) := Lib.hid (Vec.make_len _)
  clear ha hb r0 r1 r2 hL
  go_enter Tryz.func69, Tryz.ntmps69
  go_wp2_with (first | refine wpList_vload (by rfl) _ (by rfl) (by rfl) (HW.out ▸ R0.out) ?_ | refine wpList_vload (by rfl) _ (by rfl) (by rfl) (HW.out ▸ R1.out) ?_)
  rw [← hW]
  refine (JO.out _).mono ?_
  rintro e w1 ⟨rfl, h1, h2, h3⟩
  have ZI := Lib.hid (vec_zip takes_max h1 h2)
  have S2 := Lib.hid (R2.out.below h3.below R2.out.inHeap)
  have S3 := Lib.hid (HL.out.trans h3)
  clear h1 h2 h3 hW
  go_wp2_with fail
  refine ZI.out.mono ?_
  rintro e w2 ⟨rfl, h4⟩
  rw [HJ.out]
  have S4 := Lib.hid (S2.out.below h4.below S2.out.inHeap)
  have S5 := Lib.hid (S3.out.trans h4)
  clear h4
  go_wp2_with (refine wpList_vstore (by rfl) _ _ (by rfl) (by rfl) (by rfl) S4.out Hc.out ?_)
  exact bodyPost_ret (v := vecA (Vec.join a b)) (results_cell_row (by rfl) _ _ (w.heap.size + 1 + 1) 39 _ (0, 0) _ (by rfl) (S4.out.set _ Hc.out).row Tryz.underlying39 rfl (vecSize Hc.out)) rfl ⟨rfl, S5.out.set (by omega) _⟩
end Go.Proofs.YtpmolinmopgbdaaGreat
namespace Go.Proofs.YtpmolinmopgbdaaGreat
open List renaming getElem_toArray → z1, getElem_cons_zero → z2, getElem_cons_succ → z3, setIfInBounds_toArray → z4, set_cons_zero → z5, set_cons_succ → z6
open Go.RowKit Go.Sort
theorem vec_covers (w : World) {a b : List Int} (ha : a.length = 65) (hb : b.length = 65) : Calls Tryz.prog 99 #[vecA a, vecA b] w fun e w' => e = .returned (.bool (decide (Vec.Covers a b))) ∧ Laid w w' := by
  have JO := Lib.hid (fun W => vec_join W ha hb)
  have CL := Lib.hid (fun W => vec_clean W ha)
  have hE := fun W => vec_eq (x := Vec.join a b) (y := Vec.clean a) (Vec.make_len _) (Vec.clean_len a) W
  have e : decide (Vec.join a b = Vec.clean a) = decide (Vec.Covers a b) := by rw [decide_eq_decide]; exact Vec.covers_join a b
  rw [e] at hE
  have r0 : VRow ((w.alloc (.cells (vecR a) 39)).alloc (.cells (vecR b) 39)) w.heap.size a := (VRow.made w ha).alloc _
  have r1 : VRow ((w.alloc (.cells (vecR a) 39)).alloc (.cells (vecR b) 39)) (w.heap.size + 1) b := by
    have := VRow.made (w.alloc (.cells (vecR a) 39)) hb
    rwa [World.size_alloc] at this
  have hL : Laid w ((w.alloc (.cells (vecR a) 39)).alloc (.cells (vecR b) 39)) := (Laid.new w _).alloc _
  have R0 := Lib.hid r0
  have R1 := Lib.hid r1
  have HL := Lib.hid hL
  clear r0 r1 hL ha hb e
  generalize decide (Vec.Covers a b) = r at *
  go_enter Tryz.func99, Tryz.ntmps99
  go_wp2_with fail
  generalize (w.alloc (.cells (vecR a) 39)).alloc (.cells (vecR b) 39) = W0 at *
  refine wp_region_held_drew (S := (fun w' : World => Laid W0 w')) (by kernel_rfl) ((Laid.refl W0).drew) (fun hHeld => ?_)
  refine wpAnyH_tk (i := 0) (v := vecA a) rfl (Or.inl ⟨by rfl, (by intro w hSw; exact exec_vload (by rfl) (by rfl) (R0.out.below (Laid.below hSw) R0.out.inHeap))⟩) (by assumption) ?_
  simp only [Act.put, z1, z2, z3, z4, z5, z6]
  refine wpAnyH_tk (i := 1) (v := vecA b) rfl (Or.inl ⟨by rfl, (by intro w hSw; exact exec_vload (by rfl) (by rfl) (R1.out.below (Laid.below hSw) R1.out.inHeap))⟩) (by assumption) ?_
  simp only [Act.put, z1, z2, z3, z4, z5, z6]
  refine wpAnyH_tk (i := 3) (v := vecA a) rfl (Or.inl ⟨by rfl, (by intro w hSw; exact exec_vload (by rfl) (by rfl) (R0.out.below (Laid.below hSw) R0.out.inHeap))⟩) (by assumption) ?_
  simp only [Act.put, z1, z2, z3, z4, z5, z6]
  refine wpAnyH_ready (rs := [2]) (by kernel_rfl) (by simp) ?_
  refine AllReadyH.cons rfl (fun K hK => ?_) AllReadyH.nil
  go_simp
  go_at_call 69
  refine (JO.out _).mono ?_
  rintro e w8 ⟨rfl, h8⟩
  have hL := Laid.trans hHeld h8
  refine hK.out _ _ hL (fun hHeld => ?_)
  clear h8 hL
  clear hK K
  refine wpAnyH_ready (rs := [4]) (by kernel_rfl) (by simp) ?_
  refine AllReadyH.cons rfl (fun K hK => ?_) AllReadyH.nil
  go_simp
  go_at_call 97
  refine (CL.out _).mono ?_
  rintro e w9 ⟨rfl, h8⟩
  have hL := Laid.trans hHeld h8
  have F2 : Hid (Laid W0 w9) := Lib.hid hL
  refine hK.out _ _ hL (fun hHeld => ?_)
  clear h8 hL
  clear hK K
  refine wpAnyH_td (i := 5) rfl ?_
  simp only [Act.put, z1, z2, z3, z4, z5, z6]
  refine wpAnyH_td (i := 6) rfl ?_
  simp only [Act.put, z1, z2, z3, z4, z5, z6]
  refine wpAnyH_done (by kernel_rfl) ?_ _
  go_wp2_with fail
  go_ret
  exact ⟨rfl, HL.out.trans F2.out⟩
theorem vec_has (w : World) {v : List Int} (x : Ver.V) (hv : v.length = 65) (hx : Ver.Bd x) : Calls Tryz.prog 38 #[vecA v, verA x] w fun e w' => e = .returned (.bool (decide (Vec.Has v x))) ∧ Laid w w' := by
  have mixed : Tryz.prog.follows .mixedOrders = true := by kernel_rfl
  have CH : Hid (∀ W, Calls Tryz.prog 72 #[verA x] W fun e w' => e = .returned (.int .i64 (Ver.checkV x)) ∧ ∃ q os, w' = grow (W.drewN q) os) := Lib.hid (fun W => ver_check W x hx)
  have r0 : VRow ((w.alloc (.cells (vecR v) 39)).alloc (.cells #[.int .i64 x.by_, .int .i64 x.n] 27)) w.heap.size v := (VRow.made w hv).alloc _
  have r1 : Row ((w.alloc (.cells (vecR v) 39)).alloc (.cells #[.int .i64 x.by_, .int .i64 x.n] 27)) (w.heap.size + 1) 27 #[.int .i64 x.by_, .int .i64 x.n] := by
    have := Row.made (w.alloc (.cells (vecR v) 39)) 27 #[.int .i64 x.by_, .int .i64 x.n]
    rwa [World.size_alloc] at this
  have hL : Laid w ((w.alloc (.cells (vecR v) 39)).alloc (.cells #[.int .i64 x.by_, .int .i64 x.n] 27)) := (Laid.new w _).alloc _
  have HL := Lib.hid hL
  have q0 := r1.at 0
  have q1 := r1.at 1
  simp only [List.getElem?_toArray, List.getElem?_cons_zero, List.getElem?_cons_succ] at q0 q1
  have c0 := cells_grown q0
  have c1 := cells_grown q1
  by_cases hr : Ver.Right x
  · have e : Ver.checkV x = 0 := if_pos hr
    rw [e] at CH
    obtain ⟨k, hk, hk2⟩ : ∃ k : Nat, x.by_ = (k : Int) ∧ 1 ≤ k ∧ k ≤ 64 := by
      unfold Ver.Right at hr
      exact ⟨x.by_.toNat, by omega, by omega⟩
    obtain ⟨n, hn⟩ : ∃ n, v[k]? = some n := ⟨_, List.getElem?_eq_getElem (by omega)⟩
    have hhas : Vec.Has v x ↔ x.n ≤ n := by
      rw [Vec.has_at, hk, Int.toNat_natCast]
      unfold Vec.at_
      rw [if_pos (by omega), hn]
      show Ver.Right x ∧ x.n ≤ max n 0 ↔ x.n ≤ n
      unfold Ver.Right at hr ⊢
      omega
    have cv := cells_grown (r0.at hn)
    have had := vec_addr (k := k) (by omega) w.heap.size
    obtain ⟨x1, x2⟩ := x
    simp only at hk CH hhas c0 c1 HL
    subst hk
    have hk0 : (0 : Int) ≤ (k : Int) := by omega
    have hk1 : (k : Int) < 65 := by omega
    have E : Hid (decide (Vec.Has v ⟨(k : Int), x2⟩) = decide (x2 ≤ n)) := Lib.hid (decide_eq_decide.2 hhas)
    clear hhas hn hk2 hr e r0 r1 hL q0 q1 hx hv
    go_enter Tryz.func38, Tryz.ntmps38
    go_wp2_with fail
    generalize (w.alloc (.cells (vecR v) 39)).alloc (.cells #[.int .i64 (k : Int), .int .i64 x2] 27) = W0 at *
    go_quiet_grown (first | (go_at_call 72; with_reducible refine Calls.grown_of (CH.out _)))
    go_wp2_with fail
    go_ret
    exact ⟨by rw [E.out]; rfl, HL.out.grown nq osq⟩
  · have e : Ver.checkV x = 2 := if_neg hr
    rw [e] at CH
    have E : Hid (decide (Vec.Has v x) = false) := Lib.hid (decide_eq_false (fun h => hr h.1))
    obtain ⟨x1, x2⟩ := x
    simp only at CH E c0 c1 HL
    clear hr e r0 r1 hL q0 q1 hx hv
    go_enter Tryz.func38, Tryz.ntmps38
    go_wp2_with fail
    generalize (w.alloc (.cells (vecR v) 39)).alloc (.cells #[.int .i64 x1, .int .i64 x2] 27) = W0 at *
    go_quiet_grown (first | (go_at_call 72; with_reducible refine Calls.grown_of (CH.out _)))
    go_wp2_with fail
    go_ret
    exact ⟨by rw [E.out]; rfl, HL.out.grown nq osq⟩
theorem vec_ends (w : World) {v : List Int} (hv : v.length = 65) : Calls Tryz.prog 62 #[vecA v] w fun e w' => ∃ s, e = .returned s ∧ RowsOwn 27 2 verV w (Vec.ends v) s w' := by
  obtain ⟨i0, hi0, hz0, hz1, hz2⟩ := ver_parts verInfo
  have CL := Lib.hid (fun W => vec_clean W hv)
  have R0 := Lib.hid (VRow.made w hv)
  have HL := Lib.hid (Laid.new w (.cells (vecR v) 39))
  clear hv
  go_enter Tryz.func62, Tryz.ntmps62
  go_wp2_with (refine wpList_vload (by rfl) _ (by rfl) (by rfl) R0.out ?_)
  refine (CL.out _).mono ?_
  rintro e w1 ⟨rfl, h1⟩
  have H1 := Lib.hid (Laid.trans HL.out h1).below
  clear h1
  go_wp2_with fail
  go_loopw [3, 8] (fun sv i wr => ∃ k : Nat, k ≤ 65 ∧ i = .int .i64 (k : Int) ∧ RowsOwn 27 2 verV w (Vec.endsK v k) sv wr) (fun _ i _ => 65 - (intOf i).toNat)
  case atStart => exact ⟨0, Nat.zero_le _, rfl, RowsOwn.first H1.out⟩
  case round =>
    obtain ⟨k, hk, rfl, hr⟩ := hrel
    by_cases hlt : k < 65
    · have hix := vec_index hlt (Vec.clean_get v hlt)
      have hk0 : (0 : Int) ≤ (k : Int) := by omega
      have hk1 : (k : Int) < 65 := by omega
      have Hk := Lib.hid hk
      by_cases hp : 0 < Vec.at_ v k
      · have HE := Lib.hid (Vec.endsK_more v k hp)
        have Hlen := Lib.hid (Vec.endsK_len v k)
        generalize Vec.at_ v k = n at *
        have HR := Lib.hid hr
        have hown := hr.1.alloc (.cells #[.int .i64 (k : Int), .int .i64 n] 27)
        have Hmd := Lib.hid (ver_made wr 27 ⟨(k : Int), n⟩)
        have hsz : w.heap.size ≤ wr.heap.size := hr.2.size
        clear hr hk
        go_wp2_with (at_builtin; refine wp_joins (f := verV) (k := 2) rfl _ _ 40 rfl w.heap.size 27 i0 (.agg #[.int .i64 0, .int .i64 0]) 16 Tryz.underlying40 hi0 hz0 hz1 hz2 rfl (by decide) rfl rfl hown Hmd.out (fun _ _ => rfl) (fun x _ => ver_one x) ?c1 ?c2 ?c3 ?_; (case c1 => (have e1 := Hlen.out; have e2 := Hk.out; rw [show ([(⟨(k : Int), n⟩ : Ver.V)]).length = 1 from rfl]; unfold maxLen; omega)); (case c2 => (have e1 := Hlen.out; have e2 := Hk.out; rw [show ([(⟨(k : Int), n⟩ : Ver.V)]).length = 1 from rfl]; omega)); (case c3 => (simp; omega)); intro v2 w2 own2 hg2 _; have F2 := Lib.hid (HR.out.more (x := (⟨(k : Int), n⟩ : Ver.V)) (v' := v2) (by simpa [verV] using own2) hg2); clear own2 hg2)
        rw [← HE.out] at F2
        exact ⟨⟨k + 1, by omega, rfl, F2.out⟩, by show 65 - ((k : Int) + 1).toNat < 65 - (k : Int).toNat; omega⟩
      · have hp' : Vec.at_ v k ≤ 0 := by omega
        rw [← Vec.endsK_same v k hp] at hr
        have HR := Lib.hid hr
        generalize Vec.at_ v k = n at *
        clear hr
        go_wp2_with fail
        exact ⟨⟨k + 1, by omega, rfl, HR.out⟩, by show 65 - ((k : Int) + 1).toNat < 65 - (k : Int).toNat; omega⟩
    · obtain rfl : k = 65 := by omega
      have HR := Lib.hid hr
      clear hr
      go_wp2_with fail
      go_ret
      exact ⟨_, rfl, HR.out⟩
theorem vec_ok : VecOk where
  clean := fun hv => vec_clean _ hv
  has := fun x hv hx => vec_has _ x hv hx
  ofl := fun h hl hb => vec_of h hl hb
  join := fun ha hb => vec_join _ ha hb
  covers := fun ha hb => vec_covers _ ha hb
  ends := fun hv => (vec_ends _ hv).mono (fun e w' h => by obtain ⟨s, e1, h⟩ := h; exact ⟨s, e1, h.rows (fun _ _ => rfl), h.2⟩)
end Go.Proofs.YtpmolinmopgbdaaGreat
namespace Go.Proofs.YtpmolinmopgbdaaGreat
theorem know_ok : KnowOk := know_of vec_ok iset_ok cover_ok filter_ok
end Go.Proofs.YtpmolinmopgbdaaGreat
