/- The document's own answers of layer 4: First. -/
import Derived.Test.YtlccbebociknaaaFrmRef
import Derived.Test.YtlccbebociknaaaRef2
import Derived.Test.YtlccbebociknaaaRegion
namespace Go.Proofs.Ytlccbebociknaaa
open Go.RowKit

def FirstIs (t : List UInt8) (n : Nat) (x : Int) (w : World) (e : Ending) (w' : World) : Prop := e = .returned (.tuple #[.string (mk t), .int .i64 n, .int .i64 x]) ∧ Below w.heap.size w w'

theorem mk_inj {a b : List UInt8} (h : mk a = mk b) : a = b := by rw [← mk_data a, h, mk_data]

/-- What the text at the front says, where there is none. -/
theorem second_bad (s : List UInt8) (h : (Leb.second s).2.2 ≠ 0) : (Leb.second s).1 = [] ∧ (Leb.second s).2.1 = 0 := by
  unfold Leb.second at h ⊢
  split
  · split
    · exact ⟨rfl, rfl⟩
    · rename_i h1 h2
      rw [if_pos h1, if_neg h2] at h
      exact absurd rfl h
  · exact ⟨rfl, rfl⟩

set_option maxRecDepth 100000 in
set_option maxHeartbeats 800000 in
theorem ref_frame (s : ByteArray) (w : World) (hs : s.size ≤ 100000) :
    Calls Try.prog 13 #[.string s] w (FirstIs (Frm.first s.data.toList).1 (Frm.first s.data.toList).2.1 (Frm.first s.data.toList).2.2 w) := by
  have hsec : Hid (∀ W, Calls Try.prog 26 #[.string s] W (SecondIs (Leb.second s.data.toList).1 (Leb.second s.data.toList).2.1 (Leb.second s.data.toList).2.2 W)) := fun W => ref_second s W (by omega)
  by_cases he : (Leb.second s.data.toList).2.2 = 0
  · obtain ⟨g1, g2, g3, g4⟩ := Frm.second_only s.data.toList (Leb.second s.data.toList).1 (Leb.second s.data.toList).2.1 (by rw [← he])
    have hlen := (Leb.enc_len (Leb.second s.data.toList).1.length).1
    have hss : s.data.toList.length = s.size := (Lib.size_eq s).symm
    by_cases hl : s.data.toList.length - (Leb.second s.data.toList).2.1 < 4
    · have hfin : Hid (Frm.first s.data.toList = ([], 0, 5)) := by
        unfold Frm.first
        rw [if_pos he, if_pos hl]; rfl
      have hb : decide ((s.size : Int) - ((Leb.second s.data.toList).2.1 : Int) < 4) = true := by simp; omega
      have hk : ((Leb.second s.data.toList).2.1 : Int) ≤ (s.size : Int) := by omega
      clear g1 g2 g3 g4 hl
      generalize (Leb.second s.data.toList).1 = t at *
      generalize (Leb.second s.data.toList).2.1 = k at *
      have Hs2 : Hid (∀ W, Calls Try.prog 26 #[.string s] W (SecondIs t k 0 W)) := by rw [← he]; exact hsec
      clear hsec he hss hlen
      go_enter Try.func13, Try.ntmps13
      go_wp2_with (go_at_call 26; refine (Hs2.out _).mono ?_; rintro e w' ⟨rfl, rfl⟩)
      go_ret3
      exact ⟨by rw [hfin.out]; rfl, Below.refl _ _⟩
    · have hlt : (Leb.second s.data.toList).1.length ≤ 100000 := by omega
      have hb : decide ((s.size : Int) - ((Leb.second s.data.toList).2.1 : Int) < 4) = false := by simp; omega
      have hk : (Leb.second s.data.toList).2.1 + 4 ≤ s.size := by omega
      have hfour := fun W => ref_four (mk (Leb.second s.data.toList).1) W (by rw [mk_len]; exact hlt)
      rw [mk_data] at hfour
      have hcut : Hid (s.extract (Leb.second s.data.toList).2.1 ((Leb.second s.data.toList).2.1 + 4) = mk ((s.data.toList.drop (Leb.second s.data.toList).2.1).take 4)) := bytes_ext (by rw [Lib.extract_data, Nat.add_sub_cancel_left]; rfl)
      by_cases hq : (s.data.toList.drop (Leb.second s.data.toList).2.1).take 4 = Frm.sumOf (Leb.second s.data.toList).1
      · have hfin : Hid (Frm.first s.data.toList = ((Leb.second s.data.toList).1, (Leb.second s.data.toList).2.1 + 4, 0)) := Lib.hid (by
          unfold Frm.first
          rw [if_pos he, if_neg hl, if_pos hq])
        have hne : ((s.extract (Leb.second s.data.toList).2.1 ((Leb.second s.data.toList).2.1 + 4)).toList == (mk (Frm.sumOf (Leb.second s.data.toList).1)).toList) = true := by
          rw [hcut.out, hq]
          exact beq_self_eq_true _
        have hfour2 : Hid (∀ W, Calls Try.prog 27 #[.string (mk (Leb.second s.data.toList).1)] W fun e w' => e = .returned (.string (mk (Frm.sumOf (Leb.second s.data.toList).1))) ∧ Below W.heap.size W w') := hfour
        clear g1 g2 g3 g4 hl hq hfour hcut hlt
        generalize (Leb.second s.data.toList).1 = t at *
        generalize (Leb.second s.data.toList).2.1 = k at *
        have Hs2 : Hid (∀ W, Calls Try.prog 26 #[.string s] W fun e w' => e = .returned (.tuple #[.string (mk t), .int .i64 k, .int .i64 0]) ∧ W = w') := by rw [← he]; exact hsec
        have hk1 : (k : Int) ≤ (s.size : Int) := by omega
        have hk4 : IntKind.i64.wrap ((k : Int) + 4) = (k : Int) + 4 := IntWalk.i64_in _ ⟨by omega, by omega⟩
        have hk5 : ((k : Int) + 4) ≤ (s.size : Int) := by omega
        have hk6 : (k : Int) ≤ ((k : Int) + 4) := by omega
        have hk7 : (0 : Int) ≤ ((k : Int) + 4) := by omega
        have hk8 : ((k : Int) + 4).toNat = k + 4 := by omega
        clear hsec he hss hlen
        generalize hz : mk (Frm.sumOf t) = z at *
        generalize hx : mk t = x at *
        clear hz
        go_enter Try.func13, Try.ntmps13
        go_wp2_with (go_at_call 26; refine (Hs2.out _).mono ?_; rintro e w' ⟨rfl, rfl⟩)
        refine wp_region_held_drew (S := fun w' => Below w.heap.size w w') (by kernel_rfl) ((Below.refl _ _).drew) (fun hHeld => ?_)
        refine wpAnyH_take (i := 0) (v := ?_) rfl (by kernel_rfl) (by kernel_rfl) (by kernel_rfl) (fun _ _ _ h => h) (Or.inl ⟨by rfl, (by intro w hSw; go_simp; try with_reducible rfl)⟩) (by assumption) ?_
        simp only [Act.put, List.getElem_toArray, List.getElem_cons_zero, List.setIfInBounds_toArray, List.set_cons_zero, List.set_cons_succ]
        refine wpAnyH_take (i := 1) (v := ?_) rfl (by kernel_rfl) (by kernel_rfl) (by kernel_rfl) (fun _ _ _ h => h) (Or.inl ⟨by rfl, (by intro w hSw; go_simp; try with_reducible rfl)⟩) (by assumption) ?_
        simp only [Act.put, List.getElem_toArray, List.getElem_cons_zero, List.getElem_cons_succ, List.setIfInBounds_toArray, List.set_cons_zero, List.set_cons_succ]
        refine wpAnyH_take (i := 2) (v := ?_) rfl (by kernel_rfl) (by kernel_rfl) (by kernel_rfl) (fun _ _ _ h => h) (Or.inl ⟨by rfl, (by intro w hSw; go_simp; try with_reducible rfl)⟩) (by assumption) ?_
        simp only [Act.put, List.getElem_toArray, List.getElem_cons_zero, List.getElem_cons_succ, List.setIfInBounds_toArray, List.set_cons_zero, List.set_cons_succ]
        refine wpAnyH_take (i := 3) (v := ?_) rfl (by kernel_rfl) (by kernel_rfl) (by kernel_rfl) (fun _ _ _ h => h) (Or.inl ⟨by rfl, (by intro w hSw; go_simp; try with_reducible rfl)⟩) (by assumption) ?_
        simp only [Act.put, List.getElem_toArray, List.getElem_cons_zero, List.getElem_cons_succ, List.setIfInBounds_toArray, List.set_cons_zero, List.set_cons_succ]
        refine wpAnyH_take (i := 4) (v := ?_) rfl (by kernel_rfl) (by kernel_rfl) (by kernel_rfl) (fun _ _ _ h => h) (Or.inl ⟨by rfl, (by intro w hSw; go_simp; try with_reducible rfl)⟩) (by assumption) ?_
        simp only [Act.put, List.getElem_toArray, List.getElem_cons_zero, List.getElem_cons_succ, List.setIfInBounds_toArray, List.set_cons_zero, List.set_cons_succ]
        refine wpAnyH_take (i := 5) (v := ?_) rfl (by kernel_rfl) (by kernel_rfl) (by kernel_rfl) (fun _ _ _ h => h) (Or.inl ⟨by rfl, (by intro w hSw; go_simp; try with_reducible rfl)⟩) (by assumption) ?_
        simp only [Act.put, List.getElem_toArray, List.getElem_cons_zero, List.getElem_cons_succ, List.setIfInBounds_toArray, List.set_cons_zero, List.set_cons_succ]
        refine wpAnyH_ready (rs := [6]) (by kernel_rfl) (by simp) ?_
        refine AllReadyH.cons rfl (fun K hK => ?_) AllReadyH.nil
        go_simp
        go_at_call 27
        refine (hfour2.out _).mono ?_
        rintro e w1 ⟨rfl, hb1⟩
        refine hK.out _ _ (hHeld.trans (hb1.mono hHeld.size)) (fun hHeld => ?_)
        clear hK K
        refine wpAnyH_take (i := 7) (v := ?_) rfl (by kernel_rfl) (by kernel_rfl) (by kernel_rfl) (fun _ _ _ h => h) (Or.inl ⟨by rfl, (by intro w hSw; go_simp; try with_reducible rfl)⟩) (by assumption) ?_
        simp only [Act.put, List.getElem_toArray, List.getElem_cons_zero, List.getElem_cons_succ, List.setIfInBounds_toArray, List.set_cons_zero, List.set_cons_succ]
        refine wpAnyH_done (by kernel_rfl) ?_ _
        have Hh := Lib.hid hHeld
        clear hHeld
        go_wp2_with fail
        go_ret3
        exact ⟨by rw [hfin.out, hx]; rfl, Hh.out⟩
      · have hfin : Hid (Frm.first s.data.toList = ([], 0, 7)) := Lib.hid (by
          unfold Frm.first
          rw [if_pos he, if_neg hl, if_neg hq])
        have hne : ((s.extract (Leb.second s.data.toList).2.1 ((Leb.second s.data.toList).2.1 + 4)).toList == (mk (Frm.sumOf (Leb.second s.data.toList).1)).toList) = false := by
          rw [hcut.out]
          rw [beq_eq_false_iff_ne, Lib.toList_data, Lib.toList_data]; exact hq
        have hfour2 : Hid (∀ W, Calls Try.prog 27 #[.string (mk (Leb.second s.data.toList).1)] W fun e w' => e = .returned (.string (mk (Frm.sumOf (Leb.second s.data.toList).1))) ∧ Below W.heap.size W w') := hfour
        clear g1 g2 g3 g4 hl hq hfour hcut hlt
        generalize (Leb.second s.data.toList).1 = t at *
        generalize (Leb.second s.data.toList).2.1 = k at *
        have Hs2 : Hid (∀ W, Calls Try.prog 26 #[.string s] W fun e w' => e = .returned (.tuple #[.string (mk t), .int .i64 k, .int .i64 0]) ∧ W = w') := by rw [← he]; exact hsec
        have hk1 : (k : Int) ≤ (s.size : Int) := by omega
        have hk4 : IntKind.i64.wrap ((k : Int) + 4) = (k : Int) + 4 := IntWalk.i64_in _ ⟨by omega, by omega⟩
        have hk5 : ((k : Int) + 4) ≤ (s.size : Int) := by omega
        have hk6 : (k : Int) ≤ ((k : Int) + 4) := by omega
        have hk7 : (0 : Int) ≤ ((k : Int) + 4) := by omega
        have hk8 : ((k : Int) + 4).toNat = k + 4 := by omega
        clear hsec he hss hlen
        generalize hz : mk (Frm.sumOf t) = z at *
        generalize hx : mk t = x at *
        clear hz
        go_enter Try.func13, Try.ntmps13
        go_wp2_with (go_at_call 26; refine (Hs2.out _).mono ?_; rintro e w' ⟨rfl, rfl⟩)
        refine wp_region_held_drew (S := fun w' => Below w.heap.size w w') (by kernel_rfl) ((Below.refl _ _).drew) (fun hHeld => ?_)
        refine wpAnyH_take (i := 0) (v := ?_) rfl (by kernel_rfl) (by kernel_rfl) (by kernel_rfl) (fun _ _ _ h => h) (Or.inl ⟨by rfl, (by intro w hSw; go_simp; try with_reducible rfl)⟩) (by assumption) ?_
        simp only [Act.put, List.getElem_toArray, List.getElem_cons_zero, List.setIfInBounds_toArray, List.set_cons_zero, List.set_cons_succ]
        refine wpAnyH_take (i := 1) (v := ?_) rfl (by kernel_rfl) (by kernel_rfl) (by kernel_rfl) (fun _ _ _ h => h) (Or.inl ⟨by rfl, (by intro w hSw; go_simp; try with_reducible rfl)⟩) (by assumption) ?_
        simp only [Act.put, List.getElem_toArray, List.getElem_cons_zero, List.getElem_cons_succ, List.setIfInBounds_toArray, List.set_cons_zero, List.set_cons_succ]
        refine wpAnyH_take (i := 2) (v := ?_) rfl (by kernel_rfl) (by kernel_rfl) (by kernel_rfl) (fun _ _ _ h => h) (Or.inl ⟨by rfl, (by intro w hSw; go_simp; try with_reducible rfl)⟩) (by assumption) ?_
        simp only [Act.put, List.getElem_toArray, List.getElem_cons_zero, List.getElem_cons_succ, List.setIfInBounds_toArray, List.set_cons_zero, List.set_cons_succ]
        refine wpAnyH_take (i := 3) (v := ?_) rfl (by kernel_rfl) (by kernel_rfl) (by kernel_rfl) (fun _ _ _ h => h) (Or.inl ⟨by rfl, (by intro w hSw; go_simp; try with_reducible rfl)⟩) (by assumption) ?_
        simp only [Act.put, List.getElem_toArray, List.getElem_cons_zero, List.getElem_cons_succ, List.setIfInBounds_toArray, List.set_cons_zero, List.set_cons_succ]
        refine wpAnyH_take (i := 4) (v := ?_) rfl (by kernel_rfl) (by kernel_rfl) (by kernel_rfl) (fun _ _ _ h => h) (Or.inl ⟨by rfl, (by intro w hSw; go_simp; try with_reducible rfl)⟩) (by assumption) ?_
        simp only [Act.put, List.getElem_toArray, List.getElem_cons_zero, List.getElem_cons_succ, List.setIfInBounds_toArray, List.set_cons_zero, List.set_cons_succ]
        refine wpAnyH_take (i := 5) (v := ?_) rfl (by kernel_rfl) (by kernel_rfl) (by kernel_rfl) (fun _ _ _ h => h) (Or.inl ⟨by rfl, (by intro w hSw; go_simp; try with_reducible rfl)⟩) (by assumption) ?_
        simp only [Act.put, List.getElem_toArray, List.getElem_cons_zero, List.getElem_cons_succ, List.setIfInBounds_toArray, List.set_cons_zero, List.set_cons_succ]
        refine wpAnyH_ready (rs := [6]) (by kernel_rfl) (by simp) ?_
        refine AllReadyH.cons rfl (fun K hK => ?_) AllReadyH.nil
        go_simp
        go_at_call 27
        refine (hfour2.out _).mono ?_
        rintro e w1 ⟨rfl, hb1⟩
        refine hK.out _ _ (hHeld.trans (hb1.mono hHeld.size)) (fun hHeld => ?_)
        clear hK K
        refine wpAnyH_take (i := 7) (v := ?_) rfl (by kernel_rfl) (by kernel_rfl) (by kernel_rfl) (fun _ _ _ h => h) (Or.inl ⟨by rfl, (by intro w hSw; go_simp; try with_reducible rfl)⟩) (by assumption) ?_
        simp only [Act.put, List.getElem_toArray, List.getElem_cons_zero, List.getElem_cons_succ, List.setIfInBounds_toArray, List.set_cons_zero, List.set_cons_succ]
        refine wpAnyH_done (by kernel_rfl) ?_ _
        have Hh := Lib.hid hHeld
        clear hHeld
        go_wp2_with fail
        go_ret3
        exact ⟨by rw [hfin.out, show mk [] = ByteArray.empty from rfl]; rfl, Hh.out⟩
  · obtain ⟨e1, e2⟩ := second_bad _ he
    have hfin : Hid (Frm.first s.data.toList = ([], 0, (Leb.second s.data.toList).2.2)) := by
      unfold Frm.first
      rw [if_neg he]; rfl
    have hb : ((Leb.second s.data.toList).2.2 != 0) = true := by simp [he]
    rw [e1, e2] at hsec
    generalize (Leb.second s.data.toList).2.2 = x at *
    clear he e1 e2
    go_enter Try.func13, Try.ntmps13
    go_wp2_with (go_at_call 26; refine (hsec.out _).mono ?_; rintro e w' ⟨rfl, rfl⟩)
    go_ret3
    exact ⟨by rw [hfin.out]; rfl, Below.refl _ _⟩
end Go.Proofs.Ytlccbebociknaaa
