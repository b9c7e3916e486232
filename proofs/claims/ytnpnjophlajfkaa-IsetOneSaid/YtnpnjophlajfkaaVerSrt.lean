/- The landed vers: Sort (Clone, SortFunc, Compact). -/
import Derived.Test.YtnpnjophlajfkaaVerCpt
import Derived.Test.YtnpnjophlajfkaaVerSml
import Derived.Test.YtnpnjophlajfkaaSortOwn
import Derived.Shelf.SlSortCmp.NoneTotal
import Derived.Great.Walk
set_option linter.unusedSimpArgs false
set_option linter.unusedVariables false
namespace Go.Proofs.Ytnpnjophlajfkaa
open Go.RowKit Go.Shelf Go.Lib Go.Sort

set_option maxRecDepth 100000 in
theorem lt_order (x y : Ver.V) : ltOf Ver.order x y = decide (Ver.Before x y) := by
  unfold ltOf Ver.order
  by_cases h : x = y
  · subst h; simp [Ver.before_irrefl]
  · by_cases h2 : Ver.Before x y <;> simp [h, h2]
set_option maxRecDepth 100000 in
theorem swo_order : SWO (ltOf Ver.order) where
  irrefl x := by rw [lt_order]; exact decide_eq_false (Ver.before_irrefl x)
  trans x y z h1 h2 := by
    rw [lt_order] at *
    exact decide_eq_true (Ver.before_trans (of_decide_eq_true h1) (of_decide_eq_true h2))
  ntrans x y z h1 h2 := by
    rw [lt_order] at *
    have k1 := of_decide_eq_false h1
    have k2 := of_decide_eq_false h2
    exact decide_eq_false (by unfold Ver.Before at *; omega)

set_option maxRecDepth 100000 in
/-- What compacting makes of versions that do not fall. -/
theorem compact_sort {S : List Ver.V} (h : ∀ (i j : Nat) (x y : Ver.V), i < j → S[i]? = some x → S[j]? = some y → ¬ Ver.Before y x) : Ver.Up (Lib.compact S) ∧ ∀ x, x ∈ Lib.compact S ↔ x ∈ S := by
  have at_ : ∀ i, i < S.length → S[i]? = some S.toArray[i]! := fun i hi => by
    have := getI_to S.toArray (i := i) (by simpa using hi)
    simpa using this
  constructor
  · unfold Ver.Up Lib.compact Lib.compactUpTo
    rw [List.pairwise_map]
    have hr : List.Pairwise (fun a b => a < b ∧ b < S.length) (List.range S.length) := by
      have h1 : List.Pairwise (fun a b : Nat => a < b) (List.range S.length) := List.pairwise_lt_range
      refine List.Pairwise.imp_of_mem (fun {a b} ha hb hab => ⟨hab, List.mem_range.1 hb⟩) h1
    have hf := hr.filter (Lib.keeps S.toArray)
    refine List.Pairwise.imp_of_mem (fun {a b} ha hb hab => ?_) hf
    obtain ⟨hab, hbl⟩ := hab
    have hk := (List.mem_filter.1 hb).2
    have hne : S.toArray[b]! ≠ S.toArray[b - 1]! := by
      have := of_decide_eq_true hk
      rcases this with h0 | h0
      · omega
      · exact h0
    have q1 := h (b - 1) b _ _ (by omega) (at_ _ (by omega)) (at_ _ hbl)
    have q2 := h a b _ _ hab (at_ _ (by omega)) (at_ _ hbl)
    by_cases e : S.toArray[a]! = S.toArray[b]!
    · exfalso
      have q3 : ¬ Ver.Before S.toArray[b - 1]! S.toArray[b]! := by
        rcases Nat.lt_or_ge a (b - 1) with hlt | hge
        · have := h a (b - 1) _ _ hlt (at_ _ (by omega)) (at_ _ (by omega))
          rwa [e] at this
        · have : a = b - 1 := by omega
          subst this
          rw [e]; exact Ver.before_irrefl _
      rcases Ver.before_or hne with k | k
      · exact q1 k
      · exact q3 k
    · exact (Ver.before_or e).resolve_right q2
  · intro x
    unfold Lib.compact Lib.compactUpTo
    rw [List.mem_map]
    constructor
    · rintro ⟨i, hi, rfl⟩
      have hi := List.mem_range.1 (List.mem_filter.1 hi).1
      exact List.mem_of_getElem? (at_ i hi)
    · intro hx
      obtain ⟨i, hi⟩ := List.getElem?_of_mem hx
      have hil : i < S.length := (List.getElem?_eq_some_iff.1 hi).1
      have hxi : S.toArray[i]! = x := getI_of hi
      clear hi
      induction i with
      | zero => exact ⟨0, List.mem_filter.2 ⟨List.mem_range.2 hil, Lib.keeps_lt_one _ 0 (by omega)⟩, hxi⟩
      | succ i ih =>
        by_cases hk : S.toArray[i + 1]! = S.toArray[i]!
        · exact ih (by omega) (by rw [← hxi, hk])
        · exact ⟨i + 1, List.mem_filter.2 ⟨List.mem_range.2 hil, Lib.keeps_pos (by simpa using hk)⟩, hxi⟩

set_option maxRecDepth 100000 in
theorem ver_clone {w : World} {F : Nat → Prop} {v : Value} {l : List Ver.V} (h : Vrs w F v l) (hl : l.length ≤ 1000000) :
    Calls Try.prog 31 #[v] w fun e w' => ∃ v', e = .returned v' ∧ RowsOwn 24 2 verV w l v' w' := by
  obtain ⟨i0, hi0, hz0, hz1, hz2⟩ := ver_parts verInfo
  have hb0 : Below w.heap.size w (w.alloc (.cells #[] 24)) := (Below.refl _ _).alloc (Nat.le_refl _) _
  have hr := h.below hb0
  have h0own : (w.alloc (.cells #[] 24)).ownsRow w.heap.size 24 2 (.slice (some ⟨w.heap.size, 0, none⟩) 0 0) 0 [] := World.ownsRow_made w #[] 0 (Nat.le_refl _) (by decide) rfl
  obtain ⟨A, cap, rfl, hcap, hat⟩ := h
  have q22 : ∀ (w : World) (a : Option Addr) (n c n' c' : Nat), (binOp .eql 22 (.slice a n c) (.slice none n' c')).run Try.prog w = .ok (.bool a.isNone) w := fun w a n c n' c' => Lib.run_eql_slice_nil w _ _ a n c n' c' Try.underlying22
  cases A with
  | none =>
    have h0 : l.length = 0 := Nat.eq_zero_of_not_pos (fun hp => by obtain ⟨b, o, e, -⟩ := hat hp; cases e)
    have hf : l = [] := List.eq_nil_of_length_eq_zero h0
    subst hf
    clear hr hat
    go_enter Try.func31, Try.ntmps31
    go_wp2_with fail
    go_ret
    exact ⟨_, rfl, RowsOwn.start _ _ _ w⟩
  | some ad =>
    clear hat
    go_enter Try.func31, Try.ntmps31
    go_wp2_with (at_builtin; refine wp_joins (f := verV) (k := 2) rfl _ _ 22 rfl w.heap.size 24 i0 (.agg #[.int .i64 0, .int .i64 0]) 16 Try.underlying22 hi0 hz0 hz1 hz2 rfl (by decide) rfl rfl h0own hr (fun _ _ => rfl) (fun x _ => ver_one x) ?a1 ?a2 ?a3 ?_)
    case a1 => unfold maxLen; omega
    case a2 => omega
    case a3 => simp
    intro v2 w2 own2 hg2 _
    have F2 := Lib.hid (RowsOwn.front (l := l) (f := verV) (k := 2) (t := 24) hg2 (by rw [Nat.zero_add, List.nil_append]; exact own2))
    clear own2 hg2 hr h0own
    go_wp2_with fail
    go_ret
    exact ⟨_, rfl, F2.out⟩

set_option maxRecDepth 100000 in
theorem ver_sortfn {w wr : World} {v : Value} {l : List Ver.V} (h : RowsOwn 24 2 verV w l v wr) (hl : l.length ≤ 1000000) :
    Calls Try.prog 32 #[v, .func (.func 33) #[] #[]] wr fun e w' => e = .returned (.tuple #[]) ∧ ∃ S : List Ver.V, RowsOwn 24 2 verV w S v w' ∧ S.Perm l ∧ ∀ (i j : Nat) (x y : Ver.V), i < j → S[i]? = some x → S[j]? = some y → ¬ Ver.Before y x := by
  rcases Nat.eq_zero_or_pos l.length with h0 | h0
  · have hl0 : l = [] := List.eq_nil_of_length_eq_zero h0
    subst hl0
    obtain ⟨A, cap, e, -⟩ := (h.rows (fun _ _ => rfl)).parts
    rw [List.length_nil] at e
    subst e
    refine (AnyF.slices_SortFunc_none (P := Try.prog) (ρ := Try.sortVr_ren) { Try.sortVr with } A cap _ wr).mono ?_
    rintro e w' ⟨rfl, rfl⟩
    exact ⟨rfl, [], h, List.Perm.refl _, fun i j x y _ hx _ => by simp at hx⟩
  · obtain ⟨g, cap, rfl, hg0, hgl⟩ := h.1.form (by omega)
    have eg : ∀ args w, (callFunc 33 args).run Try.prog w = .ok (.enter 33 args) w := enters_of Try.func33 (by kernel_rfl) rfl
    have hcon := AnyQ.slices_SortFunc Try.sortVr 2 Try.isAgg24 Try.sizeOf24 verV ver_len ver_one Ver.order swo_order 33 #[] g 0 cap l.toArray wr eg (fun _ _ _ _ x y => ver_order _ x y) (own_holds ver_len (by decide) h.1) hgl (by simp; omega)
    refine hcon.mono ?_
    rintro e w' ⟨rfl, d, n, os, hp, hs, rfl⟩
    obtain ⟨hperm, hsz⟩ := perm_list hp
    refine ⟨rfl, d.toList, h.sorted ver_len (by decide) hsz, hperm, fun i j x y hij hx hy => ?_⟩
    rw [Array.getElem?_toList] at hx hy
    obtain ⟨hi, ex⟩ := Array.getElem?_eq_some_iff.1 hx
    obtain ⟨hj, ey⟩ := Array.getElem?_eq_some_iff.1 hy
    have hlt := hs i j (Nat.zero_le _) hij (by simpa [hsz] using hj)
    rw [lt_order, getElem!_pos d i hi, getElem!_pos d j hj, ex, ey] at hlt
    exact of_decide_eq_false hlt

set_option maxRecDepth 100000 in
theorem ver_sort {w : World} {F : Nat → Prop} {v : Value} {l : List Ver.V} (h : Vrs w F v l) (hl : l.length ≤ 1000000) :
    Calls Try.prog 23 #[v] w fun e w' => ∃ v', e = .returned v' ∧ RowsOwn 24 2 verV w (Ver.sort l) v' w' := by
  have C := Lib.hid (ver_clone h hl)
  have SO := Lib.hid (fun (B : World) (x : Value) (hx : RowsOwn 24 2 verV w l x B) => ver_sortfn hx hl)
  have CO := Lib.hid (fun (B : World) (x : Value) (S : List Ver.V) (hs : S.length ≤ 1000000) (hx : RowsOwn 24 2 verV w S x B) => ver_compact hx hs)
  clear h
  go_enter Try.func23, Try.ntmps23
  go_wp2_with fail
  refine (C.out).mono ?_
  rintro e w1 ⟨x, rfl, hx⟩
  have HX := Lib.hid hx
  clear hx
  go_wp2_with fail
  refine (SO.out _ _ HX.out).mono ?_
  rintro e w2 ⟨rfl, S, hS, hperm, hup⟩
  have HS := Lib.hid hS
  have hSl : S.length ≤ 1000000 := by rw [hperm.length_eq]; exact hl
  have hfin : Hid (Ver.sort l = Lib.compact S) := Lib.hid (by
    obtain ⟨h1, h2⟩ := compact_sort hup
    exact Ver.sort_is h1 (fun x => (h2 x).trans hperm.mem_iff))
  clear hS hperm hup
  go_wp2_with fail
  refine (CO.out _ _ _ hSl HS.out).mono ?_
  rintro e w3 ⟨v3, rfl, h3⟩
  have H3 := Lib.hid h3
  clear h3
  go_wp2_with fail
  go_ret
  exact ⟨_, rfl, by rw [hfin.out]; exact H3.out⟩
end Go.Proofs.Ytnpnjophlajfkaa
