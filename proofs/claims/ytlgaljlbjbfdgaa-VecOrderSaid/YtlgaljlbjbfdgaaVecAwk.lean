/- What must come at any rate ('awake' of layer 13). -/
import Derived.Test.YtlgaljlbjbfdgaaVecOk
import Derived.Test.YtlgaljlbjbfdgaaVerPut
import Derived.Test.YtlgaljlbjbfdgaaVerSam
set_option linter.unusedSimpArgs false
set_option linter.unusedVariables false
namespace Go.Proofs.Ytlgaljlbjbfdgaa
open Go.RowKit Go.Sort

set_option maxRecDepth 100000 in
/-- Two versions, just made. -/
theorem ver_made2 (W : World) (t : TypeId) (x y : Ver.V) : Vrs (W.alloc (.cells #[.int .i64 x.by_, .int .i64 x.n, .int .i64 y.by_, .int .i64 y.n] t)) (fun i => i = W.heap.size) (.slice (some ⟨W.heap.size, 0, none⟩) 2 2) [x, y] :=
  ⟨some ⟨W.heap.size, 0, none⟩, 2, rfl, Nat.le_refl _, fun _ => ⟨W.heap.size, 0, rfl, rfl, by simp, fun i z hz j u hu => by
    rw [(Row.made W _ _).at]
    match i, hz with
    | 0, hz => (simp at hz; subst hz; match j, hu with
      | 0, hu => simp [verV] at hu; subst hu; rfl
      | 1, hu => simp [verV] at hu; subst hu; rfl)
    | 1, hz => (simp at hz; subst hz; match j, hu with
      | 0, hu => simp [verV] at hu; subst hu; rfl
      | 1, hu => simp [verV] at hu; subst hu; rfl)⟩⟩

def Vec.awV : List Int := Vec.ofl [⟨2, 3⟩, ⟨1, 5⟩]
set_option maxRecDepth 100000 in
theorem Vec.aw_len : Vec.awV.length = 65 := (Vec.ofl_plain _).1
set_option maxRecDepth 100000 in
theorem Vec.aw_yes : decide (Vec.Has Vec.awV ⟨2, 1⟩) = true := by decide +kernel
set_option maxRecDepth 100000 in
theorem Vec.aw_no : decide (Vec.Has Vec.awV ⟨2, 4⟩) = false := by decide +kernel
set_option maxRecDepth 100000 in
theorem Vec.aw_ends : Vec.ends Vec.awV = [⟨1, 5⟩, ⟨2, 3⟩] := by decide +kernel

set_option maxRecDepth 100000 in
set_option maxHeartbeats 1600000 in
theorem vec_awake (Z : VecOk) (w : World) : Calls Try.prog 9 #[] w fun e w' => e = .returned (.bool true) ∧ Below w.heap.size w w' := by
  have hz := vecZero
  have OF : Hid (∀ W : World, Calls Try.prog 17 #[.slice (some ⟨W.heap.size, 0, none⟩) 2 2] (W.alloc (.cells #[.int .i64 2, .int .i64 3, .int .i64 1, .int .i64 5] 25)) fun e w' => e = .returned (vecA Vec.awV) ∧ Laid (W.alloc (.cells #[.int .i64 2, .int .i64 3, .int .i64 1, .int .i64 5] 25)) w') := Lib.hid (fun W => Z.ofl (ver_made2 W 25 ⟨2, 3⟩ ⟨1, 5⟩) (by decide) (by decide))
  have HY := Lib.hid (fun W => Z.has (w := W) (⟨2, 1⟩ : Ver.V) Vec.aw_len (by decide))
  have HN := Lib.hid (fun W => Z.has (w := W) (⟨2, 4⟩ : Ver.V) Vec.aw_len (by decide))
  have EN := Lib.hid (fun W => Z.ends (w := W) Vec.aw_len)
  have SU := Lib.hid (fun W => Z.sum (w := W) Vec.aw_len)
  rw [Vec.aw_yes] at HY
  rw [Vec.aw_no] at HN
  rw [Vec.aw_ends] at EN SU
  have HV := Lib.hid Vec.aw_len
  generalize Vec.awV = V at *
  have H0 := Lib.hid (fun W : World => Laid.new W (.cells #[.int .i64 2, .int .i64 3, .int .i64 1, .int .i64 5] 25))
  go_enter Try.func9, Try.ntmps9
  go_wp2_with fail
  refine (OF.out _).mono ?_
  rintro e w1 ⟨rfl, h1⟩
  have L1 := Lib.hid ((H0.out w).trans h1)
  have R1 := Lib.hid (VRow.made w1 Vec.zeros_len)
  have R2 := Lib.hid (R1.out.set V HV.out)
  have L2 := Lib.hid ((L1.out.alloc (.cells (vecR Vec.zeros) 23)).set (b := w1.heap.size) L1.out.size (vecR V)).below
  clear h1
  go_wp2_with (first | refine wpList_vstore (by rfl) _ _ (by rfl) (by rfl) (by rfl) R1.out HV.out ?_ | refine wpList_vload (by rfl) _ (by rfl) (by rfl) R2.out ?_)
  refine (HY.out _).mono ?_
  rintro e w3 ⟨rfl, h3⟩
  have R3 := Lib.hid (R2.out.below h3.below R2.out.inHeap)
  have L3 := Lib.hid (L2.out.trans (h3.below.mono L2.out.size))
  clear h3
  go_wp2_with (refine wpList_vload (by rfl) _ (by rfl) (by rfl) R3.out ?_)
  refine (HN.out _).mono ?_
  rintro e w4 ⟨rfl, h4⟩
  have R4 := Lib.hid (R3.out.below h4.below R3.out.inHeap)
  have L4 := Lib.hid (L3.out.trans (h4.below.mono L3.out.size))
  clear h4
  go_wp2_with (refine wpList_vload (by rfl) _ (by rfl) (by rfl) R4.out ?_)
  refine (EN.out _).mono ?_
  rintro e w5 ⟨s, rfl, h5, h6⟩
  have SA := Lib.hid (ref_vsame (h5.below (Below.refl _ _ |>.alloc (Nat.le_refl _) (.cells #[.int .i64 1, .int .i64 5, .int .i64 2, .int .i64 3] 25))) (ver_made2 w5 25 ⟨1, 5⟩ ⟨2, 3⟩) (by decide) (by decide))
  have R5 := Lib.hid ((R4.out.below h6 R4.out.inHeap).alloc (.cells #[.int .i64 1, .int .i64 5, .int .i64 2, .int .i64 3] 25))
  have L5 := Lib.hid ((L4.out.trans (h6.mono L4.out.size)).alloc (Nat.le_trans L4.out.size h6.size) (.cells #[.int .i64 1, .int .i64 5, .int .i64 2, .int .i64 3] 25))
  clear h5 h6
  go_wp2_with fail
  refine (SA.out).mono ?_
  rintro e w6 ⟨rfl, h7⟩
  have R6 := Lib.hid (R5.out.below h7 R5.out.inHeap)
  have L6 := Lib.hid (L5.out.trans (h7.mono L5.out.size))
  clear h7
  go_wp2_with (refine wpList_vload (by rfl) _ (by rfl) (by rfl) R6.out ?_)
  refine (SU.out _).mono ?_
  rintro e w7 ⟨rfl, h8⟩
  have L7 := Lib.hid (L6.out.trans (h8.mono L6.out.size))
  clear h8
  go_wp2_with fail
  go_ret
  exact ⟨rfl, L7.out⟩
end Go.Proofs.Ytlgaljlbjbfdgaa
