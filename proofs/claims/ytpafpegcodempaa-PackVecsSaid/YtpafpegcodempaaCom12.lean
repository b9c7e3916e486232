import Derived.Test.YtpafpegcodempaaCom11
import Derived.Laws.CopyOwn
set_option maxRecDepth 100000
set_option linter.all false
set_option maxHeartbeats 12800000
namespace Go.Proofs.Ytpafpegcodempaa
open Go.RowKit Go.Sort
theorem ref_vends (w : World) {v : List Int} (hv : v.length = 65) : Calls Try.prog 10 #[vecA v] w fun e w' => ∃ s, e = .returned s ∧ RowsOwn 43 2 verV w (Vec.ends v) s w' := by
 obtain ⟨i0, hi0, hz0, hz1, hz2⟩ := ver_parts verInfo
 have start : ∃ W, W = w.alloc (.cells (vecR v) 23) ∧ VRow W w.heap.size v ∧ Laid w W := ⟨_, rfl, VRow.made w hv, Laid.new w _⟩
 obtain ⟨W, hW, r0, hL⟩ := start
 have R0 := Lib.hid r0
 have HL := Lib.hid hL
 have HV := Lib.hid hv
 clear r0 hL hv
 go_enter Try.func10, Try.ntmps10
 go_wp2_with fail
 rw [← hW]
 clear hW
 go_loopw [3, 4] (fun sv i wr => ∃ k : Nat, 1 ≤ k ∧ k ≤ 65 ∧ i = .int .i64 (k : Int) ∧ RowsOwn 43 2 verV W (Vec.endsK v k) sv wr) (fun _ i _ => 65 - (intOf i).toNat)
 case atStart => exact ⟨1, Nat.le_refl _, by omega, rfl, by rw [Vec.endsK_one]; exact RowsOwn.first (Below.refl _ _)⟩
 case round =>
  obtain ⟨k, hk1, hk, rfl, hr⟩ := hrel
  by_cases hlt : k < 65
  ·have AT := Lib.hid (fun W' => ref_vat W' (k : Int) HV.out)
   rw [Vec.num_nat v hlt] at AT
   have k1 : (k : Int) ≤ 64 := by omega
   have Hk := Lib.hid hk
   have V0 := Lib.hid (R0.out.below hr.2 R0.out.inHeap)
   have HR := Lib.hid hr
   clear hr
   by_cases hp : 0 < Vec.at_ v k
   ·have HE := Lib.hid (Vec.endsK_more v k hp)
    have Hlen := Lib.hid (Vec.endsK_len v k)
    generalize Vec.at_ v k = n at *
    go_wp2_with (refine wpList_vload (by rfl) _ (by rfl) (by rfl) V0.out ?_)
    refine (AT.out _).mono ?_
    rintro e w1 ⟨rfl, h1⟩
    have V1 := Lib.hid (V0.out.below h1.below V0.out.inHeap)
    have HR1 := Lib.hid (HR.out.below h1.below)
    clear h1
    go_wp2_with (refine wpList_vload (by rfl) _ (by rfl) (by rfl) V1.out ?_)
    refine (AT.out _).mono ?_
    rintro e w2 ⟨rfl, h2⟩
    have HR2 := Lib.hid (HR1.out.below h2.below)
    have hown := HR2.out.1.alloc (.cells #[.int .i64 (k : Int), .int .i64 n] 43)
    have Hmd := Lib.hid (ver_made w2 43 ⟨(k : Int), n⟩)
    have hsz : W.heap.size ≤ w2.heap.size := HR2.out.2.size
    clear h2 hk
    go_wp2_with (at_builtin; refine wp_joins (f := verV) (k := 2) rfl _ _ 24 rfl W.heap.size 43 i0 (.agg #[.int .i64 0, .int .i64 0]) 16 Try.underlying24 hi0 hz0 hz1 hz2 rfl (by decide) rfl rfl hown Hmd.out (fun _ _ => rfl) (fun x _ => ver_one x) ?c1 ?c2 ?c3 ?_; (case c1 => (have e1 := Hlen.out; have e2 := Hk.out; rw [show ([(⟨(k : Int), n⟩ : Ver.V)]).length = 1 from rfl]; unfold maxLen; omega)); (case c2 => (have e1 := Hlen.out; have e2 := Hk.out; rw [show ([(⟨(k : Int), n⟩ : Ver.V)]).length = 1 from rfl]; omega)); (case c3 => (simp; omega)); intro v2 w3 own2 hg2 _; have F2 := Lib.hid (HR2.out.more (x := (⟨(k : Int), n⟩ : Ver.V)) (v' := v2) (by simpa [verV] using own2) hg2); clear own2 hg2)
    rw [← HE.out] at F2
    exact ⟨⟨k + 1, by omega, by omega, rfl, F2.out⟩, by show 65 - ((k : Int) + 1).toNat < 65 - (k : Int).toNat; omega⟩
   ·have hp' : Vec.at_ v k ≤ 0 := by omega
    have HE := Lib.hid (Vec.endsK_same v k hp)
    generalize Vec.at_ v k = n at *
    go_wp2_with (refine wpList_vload (by rfl) _ (by rfl) (by rfl) V0.out ?_)
    refine (AT.out _).mono ?_
    rintro e w1 ⟨rfl, h1⟩
    have HR1 := HR.out.below h1.below
    rw [← HE.out] at HR1
    have HR1 := Lib.hid HR1
    clear h1
    go_wp2_with fail
    exact ⟨⟨k + 1, by omega, by omega, rfl, HR1.out⟩, by show 65 - ((k : Int) + 1).toNat < 65 - (k : Int).toNat; omega⟩
  ·obtain rfl : k = 65 := by omega
   have HR := Lib.hid (hr.since HL.out.below)
   clear hr
   go_wp2_with fail
   go_ret
   exact ⟨_, rfl, HR.out⟩
end Go.Proofs.Ytpafpegcodempaa
