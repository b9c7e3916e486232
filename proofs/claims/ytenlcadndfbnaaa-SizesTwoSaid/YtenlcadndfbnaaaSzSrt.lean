/- The landed sizes: the sort by beginnings. -/
import Derived.Test.YtenlcadndfbnaaaSzHas
import Derived.Test.YtenlcadndfbnaaaSortOwn
import Derived.Shelf.SlSortCmp.NoneTotal
import Derived.Great.Walk
set_option linter.unusedSimpArgs false
set_option linter.unusedVariables false
namespace Go.Proofs.Ytenlcadndfbnaaa
open Go.RowKit Go.Shelf Go.Lib Go.Sort

def cmpLo (x y : Sz.Rg) : Int := Lib.compareInt x.1 y.1
set_option maxRecDepth 100000 in
theorem lt_lo (x y : Sz.Rg) : ltOf cmpLo x y = decide (x.1 < y.1) := by
  unfold ltOf cmpLo Lib.compareInt
  by_cases h1 : x.1 < y.1
  · simp [h1]
  · by_cases h2 : y.1 < x.1 <;> simp [h1, h2]
set_option maxRecDepth 100000 in
theorem swo_lo : SWO (ltOf cmpLo) where
  irrefl x := by rw [lt_lo]; simp
  trans x y z h1 h2 := by rw [lt_lo] at *; simp at *; omega
  ntrans x y z h1 h2 := by rw [lt_lo] at *; simp at *; omega

set_option maxRecDepth 100000 in
set_option maxHeartbeats 1000000 in
theorem ris_cmp (x y : Sz.Rg) (W : World) : Calls Try.prog 29 #[.agg #[.int .i64 x.1, .int .i64 x.2], .agg #[.int .i64 y.1, .int .i64 y.2]] W fun e w' => e = .returned (.int .i64 (cmpLo x y)) ∧ ∃ q os', w' = grow (W.drewN q) os' := by
  have hcon := fun W' => AnyG.cmp_Compare_int Try.cmpInt x.1 y.1 W'
  change ∀ W', Calls Try.prog 30 _ _ _ at hcon
  unfold cmpLo
  generalize Lib.compareInt x.1 y.1 = r at hcon ⊢
  go_enter Try.func29, Try.ntmps29
  go_wp2_with (go_at_call 30; refine (hcon _).mono ?_; rintro e w' ⟨rfl, rfl⟩)
  go_ret
  exact ⟨rfl, 0, _, by rw [alloc_eq_grow, alloc_eq_grow, grow_grow]; rfl⟩

set_option maxRecDepth 100000 in
/-- The sort, of whatever is the call's own: a permutation of it, by rising beginnings. -/
theorem ris_sort {w wr : World} {v : Value} {l : List Sz.Rg} (h : RowsOwn 29 2 rgV w l v wr) (hl : l.length ≤ 1000000) :
    Calls Try.prog 28 #[v, .func (.func 29) #[] #[]] wr fun e w' => e = .returned (.tuple #[]) ∧ ∃ S : List Sz.Rg, RowsOwn 29 2 rgV w S v w' ∧ S.Perm l ∧ ∀ (i j : Nat) (x y : Sz.Rg), i < j → S[i]? = some x → S[j]? = some y → x.1 ≤ y.1 := by
  rcases Nat.eq_zero_or_pos l.length with h0 | h0
  · have hl0 : l = [] := List.eq_nil_of_length_eq_zero h0
    subst hl0
    obtain ⟨A, cap, e, -⟩ := (h.rows (fun _ _ => rfl)).parts
    rw [List.length_nil] at e
    subst e
    refine (AnyF.slices_SortFunc_none (P := Try.prog) (ρ := Try.sortRg_ren) { Try.sortRg with } A cap _ wr).mono ?_
    rintro e w' ⟨rfl, rfl⟩
    exact ⟨rfl, [], h, List.Perm.refl _, fun i j x y _ hx _ => by simp at hx⟩
  · obtain ⟨g, cap, rfl, hg0, hgl⟩ := h.1.form (by omega)
    have eg : ∀ args w, (callFunc 29 args).run Try.prog w = .ok (.enter 29 args) w := enters_of Try.func29 (by kernel_rfl) rfl
    have hcon := AnyQ.slices_SortFunc Try.sortRg 2 Try.isAgg29 Try.sizeOf29 rgV rg_len rg_one cmpLo swo_lo 29 #[] g 0 cap l.toArray wr eg (fun _ _ _ _ x y => ris_cmp x y _) (own_holds rg_len (by decide) h.1) hgl (by simp; omega)
    refine hcon.mono ?_
    rintro e w' ⟨rfl, d, n, os, hp, hs, rfl⟩
    obtain ⟨hperm, hsz⟩ := perm_list hp
    refine ⟨rfl, d.toList, h.sorted rg_len (by decide) hsz, hperm, fun i j x y hij hx hy => ?_⟩
    rw [Array.getElem?_toList] at hx hy
    obtain ⟨hi, ex⟩ := Array.getElem?_eq_some_iff.1 hx
    obtain ⟨hj, ey⟩ := Array.getElem?_eq_some_iff.1 hy
    have hlt := hs i j (Nat.zero_le _) hij (by simpa [hsz] using hj)
    rw [lt_lo, getElem!_pos d i hi, getElem!_pos d j hj, ex, ey] at hlt
    have := of_decide_eq_false hlt
    omega

end Go.Proofs.Ytenlcadndfbnaaa
