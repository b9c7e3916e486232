/- Two slices of texts: whether they are one list (the reference's Texts). -/
import Derived.Test.YtadgdppkokbphaaFrmRef
import Derived.Deep.Slices
import Derived.OwnWalk
namespace Go.Proofs.Ytadgdppkokbphaa
open Go.RowKit

set_option maxRecDepth 100000 in
theorem Cells.below {w w' : World} {F : Nat → Prop} {v : Value} {us : List Value} (h : Cells w F v us) (k : Below w.heap.size w w') : Cells w' F v us := h.kept (Kept.ofBelow k (fun _ => False)) (fun _ _ h => h)

set_option maxRecDepth 100000 in
theorem below_drews' (w : World) (n : Nat) : Below w.heap.size w (w.drewN n) := ⟨rfl, rfl, rfl, Nat.le_refl _, fun _ _ => rfl⟩

set_option maxRecDepth 100000 in
set_option maxHeartbeats 1600000 in
/-- The same texts? -/
theorem texts_any {w : World} {F G : Nat → Prop} {u v : Value} {l m : List (List UInt8)} (hu : Cells w F u (texts l)) (hv : Cells w G v (texts m)) (hl : l.length ≤ 1000000) :
    Calls Try.prog 12 #[u, v] w fun e w' => e = .returned (.bool (decide (l = m))) ∧ Below w.heap.size w w' := by
  obtain ⟨uA, uc, rfl, huc, hua⟩ := hu
  obtain ⟨vA, vc, rfl, hvc, hva⟩ := hv
  rw [texts_len] at huc hua hvc hva ⊢
  rw [texts_len]
  have Hua := Lib.hid hua
  have Hva := Lib.hid hva
  clear hua hva
  by_cases hlm : l.length = m.length
  · rw [← hlm] at hvc ⊢
    have hl' : (l.length : Int) ≤ 1000000 := by omega
    have hne : ((l.length : Int) != (l.length : Int)) = false := by simp
    have Hlm := Lib.hid hlm
    clear hlm
    go_enter Try.func12, Try.ntmps12
    go_wp2_with fail
    go_loopw [5] (fun i wr => ∃ k : Nat, k ≤ l.length ∧ i = .int .i64 (k : Int) ∧ l.take k = m.take k ∧ Below w.heap.size w wr) (fun i _ => l.length - (intOf i).toNat)
    case atStart => exact ⟨0, Nat.zero_le _, rfl, rfl, Below.refl _ _⟩
    case round =>
      obtain ⟨k, hk, rfl, htk, hbel⟩ := hrel
      by_cases hlt : k < l.length
      · have hltm : k < m.length := by rw [← Hlm.out]; exact hlt
        obtain ⟨ub, uo, rfl, -, hub, huk⟩ := Hua.out (by omega)
        obtain ⟨vb, vo, rfl, -, hvb, hvk⟩ := Hva.out (by omega)
        obtain ⟨s, hs⟩ : ∃ s, l[k]? = some s := ⟨_, List.getElem?_eq_getElem hlt⟩
        obtain ⟨t, ht⟩ : ∃ t, m[k]? = some t := ⟨_, List.getElem?_eq_getElem hltm⟩
        have hc1 : wr.cell? ⟨ub, uo + k, none⟩ = some (.string (mk s)) := (hbel.cell (p := ⟨ub, uo + k, none⟩) hub).trans (huk k _ (texts_at hs))
        have hc2 : wr.cell? ⟨vb, vo + k, none⟩ = some (.string (mk t)) := (hbel.cell (p := ⟨vb, vo + k, none⟩) hvb).trans (hvk k _ (texts_at ht))
        have hk0 : (0 : Int) ≤ (k : Int) := by omega
        have hk1 : (k : Int) < (l.length : Int) := by omega
        have Hbel := Lib.hid hbel
        by_cases hst : s = t
        · have Hstep : Hid (l.take (k + 1) = m.take (k + 1)) := Lib.hid (by
            obtain ⟨i1, e1⟩ := List.getElem?_eq_some_iff.1 hs
            obtain ⟨i2, e2⟩ := List.getElem?_eq_some_iff.1 ht
            rw [List.take_succ_eq_append_getElem i1, List.take_succ_eq_append_getElem i2, htk, e1, e2, hst])
          have haa : ((mk s).toList == (mk t).toList) = true := by rw [hst]; exact beq_self_eq_true _
          generalize mk s = x at *
          generalize mk t = y at *
          clear huk hvk hs ht hst hbel htk hltm
          go_wp2_with fail
          go_quiet (fail)
          go_wp2_with fail
          refine ⟨⟨k + 1, by omega, rfl, Hstep.out, ?_⟩, ?_⟩
          · exact Hbel.out.trans ((below_drews' wr nq).mono Hbel.out.size)
          · show l.length - ((k : Int) + 1).toNat < l.length - (k : Int).toNat
            omega
        · have Hd : Hid (decide (l = m) = false) := Lib.hid (decide_eq_false (fun e => hst (by
            rw [e, ht] at hs
            injection hs with hs
            exact hs.symm)))
          have haa : ((mk s).toList == (mk t).toList) = false := by
            rw [beq_eq_false_iff_ne, Lib.toList_data, Lib.toList_data]; exact hst
          generalize mk s = x at *
          generalize mk t = y at *
          clear huk hvk hs ht hst hbel htk hltm
          go_wp2_with fail
          go_quiet (fail)
          go_wp2_with fail
          go_ret
          exact ⟨by rw [Hd.out]; rfl, Hbel.out.trans ((below_drews' wr nq).mono Hbel.out.size)⟩
      · obtain rfl : k = l.length := by omega
        have Hd : Hid (decide (l = m) = true) := Lib.hid (decide_eq_true (by
          rw [List.take_length, Hlm.out, List.take_length] at htk
          exact htk))
        have Hbel := Lib.hid hbel
        clear hbel htk
        go_wp2_with fail
        go_ret
        exact ⟨by rw [Hd.out]; rfl, Hbel.out⟩
  · have hne : ((l.length : Int) != (m.length : Int)) = true := by rw [bne_iff_ne]; omega
    have Hd : Hid (decide (l = m) = false) := Lib.hid (decide_eq_false (fun e => hlm (by rw [e])))
    clear hlm hl
    go_enter Try.func12, Try.ntmps12
    go_wp2_with fail
    go_ret
    exact ⟨by rw [Hd.out]; rfl, Below.refl _ _⟩

set_option maxRecDepth 100000 in
/-- Two slices of the same texts. -/
theorem texts_same {w : World} {F G : Nat → Prop} {u v : Value} {l : List (List UInt8)} (hu : Cells w F u (texts l)) (hv : Cells w G v (texts l)) (hl : l.length ≤ 1000000) :
    Calls Try.prog 12 #[u, v] w fun e w' => e = .returned (.bool true) ∧ Below w.heap.size w w' := by
  have := texts_any hu hv hl
  rw [decide_eq_true rfl] at this
  exact this

set_option maxRecDepth 100000 in
theorem strInfo : (Try.prog.info? 9).map (fun i => (i.zero, i.size, i.bytes)) = some (some (.string ⟨#[]⟩), 1, 16) := by kernel_rfl

set_option maxRecDepth 100000 in
theorem own_below {w w' : World} {base t size n : Nat} {v : Value} {xs : List Value} (h : w.ownsRow base t size v n xs) (k : Below w.heap.size w w') : w'.ownsRow base t size v n xs :=
  h.kept (Kept.ofBelow k (fun i => i = w.heap.size)).grown (Or.inr (fun e => by have := (h.lt _ e).2; omega))

/-- The call's own slice holds these texts. -/
def TextsOwn (w : World) (out : List (List UInt8)) (v : Value) (wr : World) : Prop := wr.ownsRow w.heap.size 9 1 v out.length (texts out) ∧ Below w.heap.size w wr

set_option maxRecDepth 100000 in
theorem texts_start (w : World) : TextsOwn w [] (.slice none 0 0) w := ⟨World.ownsRow_nil _ _ _ _, Below.refl _ _⟩

set_option maxRecDepth 100000 in
theorem TextsOwn.below {w w1 w2 : World} {out : List (List UInt8)} {v : Value} (h : TextsOwn w out v w1) (k : Below w1.heap.size w1 w2) : TextsOwn w out v w2 := ⟨own_below h.1 k, h.2.trans (k.mono h.2.size)⟩

set_option maxRecDepth 100000 in
theorem texts_more {w wr w2 : World} {out : List (List UInt8)} {v v' : Value} {o : Obj} {x : List UInt8} (h : TextsOwn w out v wr) (hown : w2.ownsRow w.heap.size 9 1 v' (out.length + 1) (texts out ++ [.string (mk x)])) (hg : (wr.alloc o).grownBy w2 v.ownBlock) :
    TextsOwn w (out ++ [x]) v' w2 := by
  obtain ⟨h1, h2⟩ := h
  refine ⟨?_, (h2.alloc h2.size o).grown hg (by have := h2.size; simp; omega) (fun k hk => (h1.lt k hk).1)⟩
  rw [List.length_append]
  simpa [texts] using hown

set_option maxRecDepth 100000 in
theorem TextsOwn.cells {w w' : World} {out : List (List UInt8)} {v : Value} (h : TextsOwn w out v w') : Cells w' (NewIn w w') v (texts out) := Cells.ofOwn h.1 (fun _ _ h1 h2 => ⟨h1, h2⟩)
end Go.Proofs.Ytadgdppkokbphaa
