/- The landed sizes: a range is put behind others. -/
import Derived.Test.YtenlcadndfbnaaaSzOk
import Derived.Test.YtenlcadndfbnaaaOwn2
import Derived.Test.YtenlcadndfbnaaaSzNorm
import Derived.Test.YtenlcadndfbnaaaSzRef
set_option linter.unusedSimpArgs false
set_option linter.unusedVariables false
namespace Go.Proofs.Ytenlcadndfbnaaa
open Go.RowKit

def ext (lo hi : Int) : List Sz.Rg := if lo ≤ hi then [(lo, hi)] else []
set_option maxRecDepth 100000 in
theorem ext_len (lo hi : Int) : (ext lo hi).length ≤ 1 := by unfold ext; split <;> simp

set_option maxRecDepth 100000 in
/-- A slice that was just made of one range. -/
theorem rg_made (w : World) (t : TypeId) (lo hi : Int) : Rgs (w.alloc (.cells #[.int .i64 lo, .int .i64 hi] t)) (fun i => i = w.heap.size) (.slice (some ⟨w.heap.size, 0, none⟩) 1 1) [(lo, hi)] := by
  refine ⟨_, 1, rfl, Nat.le_refl _, fun _ => ⟨w.heap.size, 0, rfl, rfl, by simp, fun i x hx j u hu => ?_⟩⟩
  rw [(Row.made w _ _).at, Nat.zero_add]
  match i, hx with
  | 0, hx =>
    injection hx with hx
    subst hx
    match j, hu with
    | 0, hu => simpa [rgV] using hu
    | 1, hu => simpa [rgV] using hu

set_option maxRecDepth 100000 in
set_option maxHeartbeats 1600000 in
theorem sz_add {base : Nat} {v : Value} {l : List Sz.Rg} {w : World} (h : w.ownsRow base 29 2 v l.length (l.flatMap rgV)) (hb : base ≤ w.heap.size) (hl : l.length ≤ 1000000) (lo hi : Int) :
    Calls Try.prog 27 #[v, .int .i64 lo, .int .i64 hi] w fun e w' => ∃ v', e = .returned v' ∧ w'.ownsRow base 29 2 v' (l ++ ext lo hi).length ((l ++ ext lo hi).flatMap rgV) ∧ w.grownBy w' v.ownBlock ∧ Near w v v' := by
  obtain ⟨i0, hi0, hz0, hz1, hz2⟩ := info_parts rangeInfo
  by_cases hlt : hi < lo
  · have hx : Hid (ext lo hi = []) := Lib.hid (by unfold ext; rw [if_neg (by omega)])
    have H := Lib.hid h
    clear h
    go_enter Try.func27, Try.ntmps27
    go_wp2_with fail
    go_ret
    exact ⟨v, rfl, by rw [hx.out, List.append_nil]; exact H.out, ⟨rfl, rfl, rfl, Nat.le_refl _, fun _ _ _ => rfl⟩, Near.refl _ _⟩
  · have hx : Hid (ext lo hi = [(lo, hi)]) := Lib.hid (by unfold ext; rw [if_pos (by omega)])
    have hown := h.alloc (.cells #[.int .i64 lo, .int .i64 hi] 29)
    have hmade := rg_made w 29 lo hi
    have hsz : base ≤ (w.alloc (.cells #[.int .i64 lo, .int .i64 hi] 29)).heap.size := by simp; omega
    have hfin : Hid (∀ v' w', w'.ownsRow base 29 2 v' (l.length + 1) (l.flatMap rgV ++ [(lo, hi)].flatMap rgV) → (w.alloc (.cells #[.int .i64 lo, .int .i64 hi] 29)).grownBy w' v.ownBlock → Near (w.alloc (.cells #[.int .i64 lo, .int .i64 hi] 29)) v v' →
        w'.ownsRow base 29 2 v' (l ++ ext lo hi).length ((l ++ ext lo hi).flatMap rgV) ∧ w.grownBy w' v.ownBlock ∧ Near w v v') := Lib.hid (by
      intro v' w' h1 h2 h3
      rw [hx.out, List.length_append, List.flatMap_append]
      refine ⟨h1, ⟨h2.os, h2.tape, h2.output, by have := h2.size; simp at this; omega, fun k hk hn => (h2.block k (by simp; omega) hn).trans (Below.heap_alloc w _ k hk)⟩, ?_⟩
      rcases h3 with h3 | h3
      · exact Or.inl h3
      · exact Or.inr (fun g hg => by have := h3 g hg; simp at this; omega))
    clear h hx
    go_enter Try.func27, Try.ntmps27
    go_wp2_with (at_builtin; refine wp_joins (f := rgV) (k := 2) rfl _ _ 22 rfl base 29 i0 (.agg #[.int .i64 0, .int .i64 0]) 16 Try.underlying22 hi0 hz0 hz1 hz2 rfl (by decide) rfl rfl hown hmade (fun _ _ => rfl) (fun x _ => rg_one x) ?c3 ?c4 hsz ?_)
    case c3 => unfold maxLen; first | omega | (simp; omega)
    case c4 => first | omega | (simp; omega)
    intro v' w' h1 h2 h3
    have Hend := Lib.hid (hfin.out v' w' h1 h2 h3)
    clear h1 h2 h3 hown hmade hfin
    go_wp2
    go_ret
    exact ⟨v', rfl, Hend.out⟩
end Go.Proofs.Ytenlcadndfbnaaa
