import Derived.Test.YtkcgmnhjofoeiaaGreatCom40
import Derived.Test.YtkcgmnhjofoeiaaGreatCom25
import Derived.Test.YtkcgmnhjofoeiaaGreatCom11
import Derived.Test.YtkcgmnhjofoeiaaGreatCom10
import Derived.Test.YtkcgmnhjofoeiaaGreatCom34
import Derived.Test.YtkcgmnhjofoeiaaGreatCom39
import Derived.Shelf.SlSortCmp.QuietGrown
set_option maxRecDepth 100000
set_option linter.all false
set_option maxHeartbeats 12800000
namespace Go.Proofs.YtkcgmnhjofoeiaaGreat
open Go.RowKit Go.Sort
theorem vec_covers (w : World) {a b : List Int} (ha : a.length = 65) (hb : b.length = 65) : Calls Tryz.prog 112 #[vecA a, vecA b] w fun e w' => e = .returned (.bool (decide (Vec.Covers a b))) ∧ Laid w w' := by
 have JO := Lib.hid (fun W => vec_join W ha hb)
 have CL := Lib.hid (fun W => vec_clean W ha)
 have hE := fun W => vec_eq (x := Vec.join a b) (y := Vec.clean a) (Vec.make_len _) (Vec.clean_len a) W
 have e : decide (Vec.join a b = Vec.clean a) = decide (Vec.Covers a b) := by rw [decide_eq_decide]; exact Vec.covers_join a b
 rw [e] at hE
 have r0 : VRow ((w.alloc (.cells (vecR a) 28)).alloc (.cells (vecR b) 28)) w.heap.size a := (VRow.made w ha).alloc _
 have r1 : VRow ((w.alloc (.cells (vecR a) 28)).alloc (.cells (vecR b) 28)) (w.heap.size + 1) b := by
  have := VRow.made (w.alloc (.cells (vecR a) 28)) hb
  rwa [World.size_alloc] at this
 have hL : Laid w ((w.alloc (.cells (vecR a) 28)).alloc (.cells (vecR b) 28)) := (Laid.new w _).alloc _
 have R0 := Lib.hid r0
 have R1 := Lib.hid r1
 have HL := Lib.hid hL
 clear r0 r1 hL ha hb e
 generalize decide (Vec.Covers a b) = r at *
 go_enter Tryz.func112, Tryz.ntmps112
 go_wp2_with fail
 generalize (w.alloc (.cells (vecR a) 28)).alloc (.cells (vecR b) 28) = W0 at *
 refine wp_region_held_drew (S := (fun w' : World => Laid W0 w')) (by kernel_rfl) ((Laid.refl W0).drew) (fun hHeld => ?_)
 refine wpAnyH_tk (i := 0) (v := vecA a) rfl (Or.inl ⟨by rfl, (by intro w hSw; exact exec_vload (by rfl) (by rfl) (R0.out.below (Laid.below hSw) R0.out.inHeap))⟩) (by assumption) ?_
 simp only [zz]
 refine wpAnyH_tk (i := 1) (v := vecA b) rfl (Or.inl ⟨by rfl, (by intro w hSw; exact exec_vload (by rfl) (by rfl) (R1.out.below (Laid.below hSw) R1.out.inHeap))⟩) (by assumption) ?_
 simp only [zz]
 refine wpAnyH_tk (i := 3) (v := vecA a) rfl (Or.inl ⟨by rfl, (by intro w hSw; exact exec_vload (by rfl) (by rfl) (R0.out.below (Laid.below hSw) R0.out.inHeap))⟩) (by assumption) ?_
 simp only [zz]
 refine wpAnyH_ready (rs := [2]) (by kernel_rfl) (by simp) ?_
 refine AllReadyH.cons rfl (fun K hK => ?_) AllReadyH.nil
 go_simp
 go_at_call 96
 refine (JO.out _).mono ?_
 rintro e w8 ⟨rfl, h8⟩
 have hL := Laid.trans hHeld h8
 refine hK.out _ _ hL (fun hHeld => ?_)
 clear h8 hL
 clear hK K
 refine wpAnyH_ready (rs := [4]) (by kernel_rfl) (by simp) ?_
 refine AllReadyH.cons rfl (fun K hK => ?_) AllReadyH.nil
 go_simp
 go_at_call 114
 refine (CL.out _).mono ?_
 rintro e w9 ⟨rfl, h8⟩
 have hL := Laid.trans hHeld h8
 have F2 : Hid (Laid W0 w9) := Lib.hid hL
 refine hK.out _ _ hL (fun hHeld => ?_)
 clear h8 hL
 clear hK K
 refine wpAnyH_td (i := 5) rfl ?_
 simp only [zz]
 refine wpAnyH_td (i := 6) rfl ?_
 simp only [zz]
 refine wpAnyH_done (by kernel_rfl) ?_ _
 go_wp2_with fail
 go_ret
 exact ⟨rfl, HL.out.trans F2.out⟩
theorem vec_has (w : World) {v : List Int} (x : Ver.V) (hv : v.length = 65) (hx : Ver.Bd x) : Calls Tryz.prog 32 #[vecA v, verA x] w fun e w' => e = .returned (.bool (decide (Vec.Has v x))) ∧ Laid w w' := by
 have mixed : Tryz.prog.follows .mixedOrders = true := by kernel_rfl
 have CH : Hid (∀ W, Calls Tryz.prog 61 #[verA x] W fun e w' => e = .returned (.int .i64 (Ver.checkV x)) ∧ ∃ q os, w' = grow (W.drewN q) os) := Lib.hid (fun W => ver_check W x hx)
 have r0 : VRow ((w.alloc (.cells (vecR v) 28)).alloc (.cells #[.int .i64 x.by_, .int .i64 x.n] 33)) w.heap.size v := (VRow.made w hv).alloc _
 have r1 : Row ((w.alloc (.cells (vecR v) 28)).alloc (.cells #[.int .i64 x.by_, .int .i64 x.n] 33)) (w.heap.size + 1) 33 #[.int .i64 x.by_, .int .i64 x.n] := by
  have := Row.made (w.alloc (.cells (vecR v) 28)) 33 #[.int .i64 x.by_, .int .i64 x.n]
  rwa [World.size_alloc] at this
 have hL : Laid w ((w.alloc (.cells (vecR v) 28)).alloc (.cells #[.int .i64 x.by_, .int .i64 x.n] 33)) := (Laid.new w _).alloc _
 have HL := Lib.hid hL
 have q0 := r1.at 0
 have q1 := r1.at 1
 simp only [List.getElem?_toArray, List.getElem?_cons_zero, List.getElem?_cons_succ] at q0 q1
 have c0 := cells_grown q0
 have c1 := cells_grown q1
 by_cases hr : Ver.Right x
 ·have e : Ver.checkV x = 0 := if_pos hr
  rw [e] at CH
  obtain ⟨k, hk, hk2⟩ : ∃ k : Nat, x.by_ = (k : Int) ∧ 1 ≤ k ∧ k ≤ 64 := by
   unfold Ver.Right at hr
   exact ⟨x.by_.toNat, by omega, by omega⟩
  obtain ⟨n, hn⟩ : ∃ n, v[k]? = some n := ⟨_, List.getElem?_eq_getElem (by omega)⟩
  have hhas : Vec.Has v x ↔ x.n ≤ n := by
   rw [Vec.has_at, hk, Int.toNat_natCast]
   unfold Vec.at_
   rw [if_pos (by omega), hn]
   show Ver.Right x ∧ x.n ≤ max n 0 ↔ x.n ≤ n
   unfold Ver.Right at hr ⊢
   omega
  have cv := cells_grown (r0.at hn)
  have had := vec_addr (k := k) (by omega) w.heap.size
  obtain ⟨x1, x2⟩ := x
  simp only at hk CH hhas c0 c1 HL
  subst hk
  have hk0 : (0 : Int) ≤ (k : Int) := by omega
  have hk1 : (k : Int) < 65 := by omega
  have E : Hid (decide (Vec.Has v ⟨(k : Int), x2⟩) = decide (x2 ≤ n)) := Lib.hid (decide_eq_decide.2 hhas)
  clear hhas hn hk2 hr e r0 r1 hL q0 q1 hx hv
  go_enter Tryz.func32, Tryz.ntmps32
  go_wp2_with fail
  generalize (w.alloc (.cells (vecR v) 28)).alloc (.cells #[.int .i64 (k : Int), .int .i64 x2] 33) = W0 at *
  go_quiet_grown (first | (go_at_call 61; with_reducible refine Calls.grown_of (CH.out _)))
  go_wp2_with fail
  go_ret
  exact ⟨by rw [E.out]; rfl, HL.out.grown nq osq⟩
 ·have e : Ver.checkV x = 2 := if_neg hr
  rw [e] at CH
  have E : Hid (decide (Vec.Has v x) = false) := Lib.hid (decide_eq_false (fun h => hr h.1))
  obtain ⟨x1, x2⟩ := x
  simp only at CH E c0 c1 HL
  clear hr e r0 r1 hL q0 q1 hx hv
  go_enter Tryz.func32, Tryz.ntmps32
  go_wp2_with fail
  generalize (w.alloc (.cells (vecR v) 28)).alloc (.cells #[.int .i64 x1, .int .i64 x2] 33) = W0 at *
  go_quiet_grown (first | (go_at_call 61; with_reducible refine Calls.grown_of (CH.out _)))
  go_wp2_with fail
  go_ret
  exact ⟨by rw [E.out]; rfl, HL.out.grown nq osq⟩
theorem vec_ok : VecOk where
 clean := fun hv => vec_clean _ hv
 has := fun x hv hx => vec_has _ x hv hx
 ofl := fun h hl hb => vec_of h hl hb
 join := fun ha hb => vec_join _ ha hb
 covers := fun ha hb => vec_covers _ ha hb
theorem know_ok : KnowOk := know_of vec_ok iset_ok cover_ok filter_ok
end Go.Proofs.YtkcgmnhjofoeiaaGreat
