/- The landed vec: Clean. -/
import Derived.Test.YtlgaljlbjbfdgaaVecOk
import Derived.Test.YtlgaljlbjbfdgaaRegion
import Derived.Deep.QuietTactic
set_option linter.unusedSimpArgs false
set_option linter.unusedVariables false
namespace Go.Proofs.Ytlgaljlbjbfdgaa
open Go.RowKit Go.Sort

set_option maxRecDepth 100000 in
theorem vec_clean (w : World) {v : List Int} (hv : v.length = 65) : Calls Try.prog 7 #[vecA v] w fun e w' => e = .returned (vecA (Vec.clean v)) ∧ Laid w w' := by
  have hz := vecZero
  have hb1 : VRow ((w.alloc (.cells (vecR v) 23)).alloc (.cells (vecR Vec.zeros) 23)) w.heap.size v := (VRow.made w hv).alloc _
  have hb2 : VRow ((w.alloc (.cells (vecR v) 23)).alloc (.cells (vecR Vec.zeros) 23)) (w.heap.size + 1) Vec.zeros := by
    have := VRow.made (w.alloc (.cells (vecR v) 23)) (v := Vec.zeros) Vec.zeros_len
    rwa [World.size_alloc] at this
  have HB1 := Lib.hid hb1
  have HB2 := Lib.hid hb2
  have HL0 : Hid (Laid w ((w.alloc (.cells (vecR v) 23)).alloc (.cells (vecR Vec.zeros) 23))) := Lib.hid ((Laid.new w _).alloc _)
  have HV := Lib.hid hv
  clear hv hb1 hb2
  go_enter Try.func7, Try.ntmps7
  go_wp2_with (refine wpList_vload (by rfl) _ (by rfl) (by rfl) HB1.out ?_)
  go_loopw [6] (fun i wr => ∃ k : Nat, k ≤ 65 ∧ i = .int .i64 (k : Int) ∧ VRow wr w.heap.size (Vec.part (fun i => max ((v[i]?).getD 0) 0) v k) ∧ VRow wr (w.heap.size + 1) Vec.zeros ∧ Laid w wr) (fun i _ => 65 - (intOf i).toNat)
  case atStart => exact ⟨0, Nat.zero_le _, rfl, by rw [Vec.part_zero]; exact HB1.out, HB2.out, HL0.out⟩
  case round =>
    obtain ⟨k, hk, rfl, h1, h2, h3⟩ := hrel
    by_cases hlt : k < 65
    · obtain ⟨n, hn⟩ : ∃ n, v[k]? = some n := ⟨_, List.getElem?_eq_getElem (by rw [HV.out]; exact hlt)⟩
      have hix := vec_index hlt hn
      have had := vec_addr hlt w.heap.size
      have hc := h1.at (i := k) (n := n) (by rw [Vec.part_ge _ _ (by omega) (Nat.le_refl k)]; exact hn)
      have hf := h1.free k
      have hk0 : (0 : Int) ≤ (k : Int) := by omega
      have hk1 : (k : Int) < 65 := by omega
      have HN := Lib.hid hn
      have H1 := Lib.hid h1
      have H2 := Lib.hid h2
      have H3 := Lib.hid h3
      clear hn h1 h2 h3
      go_wp2_with fail
      have e : (Vec.part (fun i => max ((v[i]?).getD 0) 0) v k).set k (if n < 0 then 0 else n) = Vec.part (fun i => max ((v[i]?).getD 0) 0) v (k + 1) := by
        rw [← Vec.part_set _ HV.out hlt, HN.out]
        congr 1
        show _ = max n 0
        split <;> omega
      have h1 := H1.out.stored k (if n < 0 then 0 else n)
      rw [e] at h1
      exact ⟨⟨k + 1, by omega, rfl, h1, H2.out.storedElsewhere (by simp) _, H3.out.stored (Nat.le_refl _) _⟩, by show 65 - ((k : Int) + 1).toNat < 65 - (k : Int).toNat; omega⟩
    · obtain rfl : k = 65 := by omega
      rw [Vec.part_all _ HV.out] at h1
      have had : ∀ W : World, (Instr.indexAt 23 (.pointer (some ⟨w.heap.size, 0, none⟩)) (.int .i64 0)).run Try.prog W = .ok (.pointer (some ⟨w.heap.size, 0, none⟩)) W := fun W => vec_addr (k := 0) (by omega) _ W
      have hc := h1.at (Vec.make_at _ 0 (by omega))
      have hf := h1.free 0
      have h4 := h1.stored 0 0
      rw [Vec.clean_set] at h4
      have H4 := Lib.hid h4
      have h5 : VRow (wr.setCell ⟨w.heap.size, 0, none⟩ (.int .i64 0)) (w.heap.size + 1) Vec.zeros := h2.storedElsewhere (by simp) _
      have H5 := Lib.hid h5
      have H6 : Hid (Laid w (wr.setCell ⟨w.heap.size, 0, none⟩ (.int .i64 0))) := Lib.hid (h3.stored (Nat.le_refl _) _)
      have Hc : Hid ((Vec.clean v).length = 65) := Lib.hid (Vec.clean_len v)
      clear h1 h2 h3 h4 h5
      generalize (max ((v[0]?).getD 0) 0) = n0 at *
      go_wp2_with (first | refine wpList_vload (by rfl) _ (by rfl) (by rfl) H4.out ?_ | refine wpList_vstore (by rfl) _ _ (by rfl) (by rfl) (by rfl) H5.out Hc.out ?_)
      exact bodyPost_ret (v := vecA (Vec.clean v)) (results_cell_row (by rfl) _ _ (w.heap.size + 1) 23 _ (0, 0) _ (by rfl) (H5.out.set _ Hc.out).row Try.underlying23 rfl (vecSize Hc.out)) rfl ⟨rfl, H6.out.set (Nat.le_succ _) _⟩
end Go.Proofs.Ytlgaljlbjbfdgaa
