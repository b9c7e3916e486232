/- The landed disk: a call counted; the next sector that has something pending; all of them. -/
import Derived.Test.YtdagdmfockibfaaDiskFew
import Derived.WalkMore
set_option linter.unusedSimpArgs false
set_option linter.unusedVariables false
namespace Go.Proofs.Ytdagdmfockibfaa
open Go.RowKit Dsk

section
variable {w : World} {F : Nat → Prop} {b bm : Nat} {sv : Value} {N : Nat} {M : DataW Value} {pv : Nat → Value} {d : D}

set_option maxRecDepth 100000 in
set_option maxHeartbeats 800000 in
theorem call_any (h : DAt w F b bm sv N M pv d) (hc : d.calls ≤ 1000000) (ha : d.armed < 9223372036854775808) (hd : d.down = false) :
    Calls Try.prog 34 #[.pointer (some ⟨b, 0, none⟩)] w fun e w' => e = .returned (.bool (!d.call.down)) ∧ DAt w' F b bm sv N M pv d.call ∧ w.grownBy w' (some b) := by
  obtain ⟨-, -, c2, c3, c4, f2, f3, f4⟩ := h.facts
  have hc' : (d.calls : Int) ≤ 1000000 := by omega
  have ha' : (d.armed : Int) ≤ 9223372036854775807 := by omega
  have e2 : d.call.down = (d.down || d.armed == 1) := rfl
  by_cases h0 : d.armed = 0
  · have hb : decide ((d.armed : Int) > 0) = false := by simp [h0]
    have hq : d.call.down = false := by rw [e2, hd, h0]; rfl
    rw [hq]
    have fin : Hid (∀ k : Int, k = ((d.calls + 1 : Nat) : Int) → DAt (w.setCell ⟨b, 2, none⟩ (.int .i64 k)) F b bm sv N M pv d.call ∧ w.grownBy (w.setCell ⟨b, 2, none⟩ (.int .i64 k)) (some b)) := Lib.hid (fun k e => by
      subst e
      have hg := gb_store (gb_refl w (some b)) 2 (.int .i64 ((d.calls + 1 : Nat) : Int))
      refine ⟨?_, hg⟩
      have hr := h.blk.stored 2 (.int .i64 ((d.calls + 1 : Nat) : Int))
      have := h.turn (c := d.calls + 1) (a := d.armed - 1) (q := d.call.down) (by rw [hq, h0]; simpa [dcells, h0, hd] using hr) hg (Nat.le_succ _)
      exact this)
    rw [hd] at c4
    rw [h0] at c3
    clear h e2 h0 hq hb ha'
    go_enter Try.func34, Try.ntmps34
    go_wp2_with fail
    go_ret
    exact ⟨rfl, fin.out _ (by omega)⟩
  · have hb : decide (0 < d.armed) = true := by simp; omega
    have fin : Hid (∀ (k a : Int) (q : Bool), k = ((d.calls + 1 : Nat) : Int) → a = ((d.armed - 1 : Nat) : Int) → q = d.call.down →
        DAt (((w.setCell ⟨b, 2, none⟩ (.int .i64 k)).setCell ⟨b, 3, none⟩ (.int .i64 a)).setCell ⟨b, 4, none⟩ (.bool q)) F b bm sv N M pv d.call ∧ w.grownBy (((w.setCell ⟨b, 2, none⟩ (.int .i64 k)).setCell ⟨b, 3, none⟩ (.int .i64 a)).setCell ⟨b, 4, none⟩ (.bool q)) (some b)) := Lib.hid (fun k a q e1 e2 e3 => by
      subst e1 e2 e3
      have hg := gb_store (gb_store (gb_store (gb_refl w (some b)) 2 (.int .i64 ((d.calls + 1 : Nat) : Int))) 3 (.int .i64 ((d.armed - 1 : Nat) : Int))) 4 (.bool d.call.down)
      refine ⟨?_, hg⟩
      have hr := ((h.blk.stored 2 (.int .i64 ((d.calls + 1 : Nat) : Int))).stored 3 (.int .i64 ((d.armed - 1 : Nat) : Int))).stored 4 (.bool d.call.down)
      exact h.turn (c := d.calls + 1) (a := d.armed - 1) (q := d.call.down) hr hg (Nat.le_succ _))
    have hz : (d.armed : Int) - 1 = ((d.armed - 1 : Nat) : Int) := by omega
    have hq : d.call.down = decide ((d.armed : Int) - 1 = 0) := by
      rw [e2, hd, Bool.false_or, Bool.eq_iff_iff]
      simp
      omega
    have hbq : ((d.armed : Int) - 1 == 0) = d.call.down := by rw [hq]; rfl
    have Hq := Lib.hid hq
    have ha1 : (1 : Int) ≤ (d.armed : Int) := by omega
    have Hz := Lib.hid hz
    clear h e2 h0 hq hz
    generalize d.call.down = q at *
    go_enter Try.func34, Try.ntmps34
    go_wp2_with fail
    go_ret
    exact ⟨by first | rfl | rw [hbq], fin.out _ _ _ (by omega) Hz.out (by first | rfl | exact hbq)⟩

/-- What next tells. -/
structure Nxt (S : List (List ByteArray)) (k : Nat) (e : Ending) (w w' : World) : Prop where
  out : ∃ (j : Nat) (ok : Bool), e = .returned (.tuple #[.int .i64 (j : Int), .bool ok]) ∧ k ≤ j ∧ j ≤ S.length ∧ (∀ i l, k ≤ i → i < j → S[i]? = some l → ¬ 1 < l.length) ∧ (ok = true → j < S.length ∧ ∀ l, S[j]? = some l → 1 < l.length) ∧ (ok = false → j = S.length)
  same : w = w'

set_option maxRecDepth 100000 in
set_option maxHeartbeats 800000 in
theorem next_any (h : DAt w F b bm sv N M pv d) {k : Nat} (hk : k ≤ d.S.length) :
    Calls Try.prog 28 #[.pointer (some ⟨b, 0, none⟩), .int .i64 (k : Int)] w (Nxt d.S k · w ·) := by
  obtain ⟨g, cap, rfl, hg⟩ := h.safeForm
  obtain ⟨c0, c1, -, -, -, -, -, -⟩ := h.facts
  have hlen := h.few
  have hlook := fun (j : Nat) (hj : j < d.S.length) => h.look (List.getElem?_eq_getElem hj)
  have Hlook := Lib.hid hlook
  clear hlook h
  generalize d.S = S at *
  have hlen' : (S.length : Int) ≤ 4096 := by omega
  go_enter Try.func28, Try.ntmps28
  go_wp2_with fail
  go_step3
  go_wp2_with fail
  go_step3
  go_wp2_with fail
  go_loop [1, 6] (fun i f => ∃ j : Nat, k ≤ j ∧ j ≤ S.length ∧ i = .int .i64 (j : Int) ∧ f = .bool false ∧ ∀ i l, k ≤ i → i < j → S[i]? = some l → ¬ 1 < l.length) (fun i _ => S.length - (intOf i).toNat)
  case atStart => exact ⟨k, Nat.le_refl _, hk, rfl, rfl, fun i l h1 h2 => by omega⟩
  case round =>
    obtain ⟨j, hj1, hj2, rfl, rfl, hno⟩ := hrel
    have Hno := Lib.hid hno
    clear hno
    by_cases hlt : j < S.length
    · obtain ⟨v, hl, -, -, -, -⟩ := Hlook.out j hlt
      by_cases hp : 1 < S[j].length
      · have hpb : decide (1 < S[j].length) = true := by simpa using hp
        rw [hpb] at hl
        have fin : Hid (Nxt S k (.returned (.tuple #[.int .i64 (j : Int), .bool true])) w w) := Lib.hid ⟨⟨j, true, rfl, hj1, hj2, Hno.out, fun _ => ⟨hlt, fun l hl => by rw [List.getElem?_eq_getElem hlt] at hl; cases hl; exact hp⟩, fun e => by cases e⟩, rfl⟩
        clear hp hpb
        go_wp2_with fail
        go_ret2
        exact fin.out
      · have hpb : decide (1 < S[j].length) = false := by simpa using hp
        rw [hpb] at hl
        clear hpb
        go_wp2_with fail
        go_round
        case rel => exact ⟨j + 1, by omega, by omega, by go_num, rfl, fun i l h1 h2 h3 => by
          by_cases e : i = j
          · subst e
            rw [List.getElem?_eq_getElem hlt] at h3; cases h3; exact hp
          · exact Hno.out i l h1 (by omega) h3⟩
        case measure => simp [intOf]; omega
    · obtain rfl : j = S.length := by omega
      have fin : Hid (Nxt S k (.returned (.tuple #[.int .i64 (S.length : Int), .bool false])) w w) := Lib.hid ⟨⟨S.length, false, rfl, hj1, hj2, Hno.out, (fun e => by cases e), fun _ => rfl⟩, rfl⟩
      go_wp2_with fail
      go_ret2
      exact fin.out

theorem dirtyFrom_skip {S : List (List ByteArray)} {k j : Nat} (hkj : k ≤ j) (hj : j ≤ S.length) (h : ∀ i l, k ≤ i → i < j → S[i]? = some l → ¬ 1 < l.length) : dirtyFrom 0 (S.take j) = dirtyFrom 0 (S.take k) := by
  induction j with
  | zero => rw [show k = 0 by omega]
  | succ j ih =>
    by_cases e : k = j + 1
    · rw [e]
    · have hl := List.getElem?_eq_getElem (show j < S.length by omega)
      rw [dirty_take hl, if_neg (h j _ (by omega) (by omega) hl), List.append_nil]
      exact ih (by omega) (by omega) (fun i l h1 h2 h3 => h i l h1 (by omega) h3)

/-- The sectors up to the one at hand are told. -/
def Told (S : List (List ByteArray)) (w : World) (v : Value) (j : Nat) (ok : Bool) (wr : World) : Prop :=
  j ≤ S.length ∧ (ok = true → j < S.length ∧ ∀ l, S[j]? = some l → 1 < l.length) ∧ (ok = false → j = S.length) ∧ NatsAt w (dirtyFrom 0 (S.take j)) v wr

theorem Told.start {S : List (List ByteArray)} {w w' : World} {e : Ending} (h : Nxt S 0 e w w') : ∃ (j : Nat) (ok : Bool), e = .returned (.tuple #[.int .i64 (j : Int), .bool ok]) ∧ Told S w (.slice none 0 0) j ok w ∧ w = w' := by
  obtain ⟨⟨j, ok, e1, -, h2, h3, h4, h5⟩, e2⟩ := h
  refine ⟨j, ok, e1, ⟨h2, h4, h5, ?_⟩, e2⟩
  rw [dirtyFrom_skip (Nat.zero_le _) h2 h3]
  exact nats_start w

theorem Told.step {S : List (List ByteArray)} {l : List ByteArray} {w wr w' : World} {e : Ending} {v : Value} {j : Nat} (hl : S[j]? = some l) (hp : 1 < l.length) (hn : NatsAt w (dirtyFrom 0 (S.take j) ++ [j]) v wr) (h : Nxt S (j + 1) e wr w') :
    ∃ (j' : Nat) (ok : Bool), e = .returned (.tuple #[.int .i64 (j' : Int), .bool ok]) ∧ Told S w v j' ok wr ∧ j < j' ∧ wr = w' := by
  obtain ⟨⟨j', ok, e1, h1, h2, h3, h4, h5⟩, e2⟩ := h
  refine ⟨j', ok, e1, ⟨h2, h4, h5, ?_⟩, by omega, e2⟩
  rw [dirtyFrom_skip h1 h2 h3, dirty_take hl, if_pos hp]
  exact hn

set_option maxRecDepth 100000 in
set_option maxHeartbeats 1600000 in
theorem dirty_any {v : Value} (h : At w F v d) : Calls Try.prog 14 #[v] w fun e w' => ∃ u, e = .returned u ∧ Cells w' (New w w') u (nats d.dirty) ∧ Does At w F v d w' := by
  obtain ⟨i0, hi, hz0, hz1, hz2⟩ := info_parts intInfo
  obtain ⟨b, bm, sv, N, M, pv, rfl, h⟩ := h
  have fin : Hid (∀ wr u, Told d.S w u d.S.length false wr → ∃ u', Ending.returned u = .returned u' ∧ Cells wr (New w wr) u' (nats d.dirty) ∧ Does At w F (.pointer (some ⟨b, 0, none⟩)) d wr) := Lib.hid (fun wr u ht => by
    obtain ⟨-, -, -, h1, h2⟩ := ht
    rw [List.take_length] at h1
    refine ⟨u, rfl, Cells.ofOwn h1 (fun k _ h3 h4 => ⟨h3, h4⟩), ⟨b, bm, sv, N, M, pv, rfl, ?_⟩, Kept.ofBelow h2 _⟩
    exact (h.kept (Kept.ofBelow h2 (fun _ => False)) (fun _ _ h => h)).mono (fun _ hi => Or.inl hi))
  have nx : Hid (∀ wr k, Below w.heap.size w wr → k ≤ d.S.length → Calls Try.prog 28 #[.pointer (some ⟨b, 0, none⟩), .int .i64 (k : Int)] wr (Nxt d.S k · wr ·)) := Lib.hid (fun wr k hb hk =>
    next_any (h.kept (Kept.ofBelow hb (fun _ => False)) (fun _ _ h => h)) hk)
  have nx0 := nx.out w 0 (Below.refl _ _) (Nat.zero_le _)
  have Nx0 := Lib.hid nx0
  have hlen := h.few
  have hdl : Hid (∀ k, (dirtyFrom 0 (d.S.take k)).length ≤ 4096) := Lib.hid (fun k => by
    have := dirtyFrom_len (d.S.take k) 0
    rw [List.length_take] at this
    omega)
  clear h nx0
  generalize d.S = S at *
  go_enter Try.func14, Try.ntmps14
  go_wp2_with fail
  refine Nx0.out.mono ?_
  intro e w' hN
  obtain ⟨j, ok, rfl, hT, rfl⟩ := Told.start hN
  clear hN
  go_wp2_with fail
  go_loopw [3, 4, 5] (fun u a o wr => ∃ (j : Nat) (ok : Bool), a = .int .i64 (j : Int) ∧ o = .bool ok ∧ Told S w u j ok wr) (fun _ a _ _ => S.length - (intOf a).toNat)
  case atStart => exact ⟨j, ok, rfl, rfl, hT⟩
  case round =>
    clear hT
    obtain ⟨j, ok, rfl, rfl, hT⟩ := hrel
    cases ok
    · have hj : j = S.length := hT.2.2.1 rfl
      subst hj
      have f := fin.out _ _ hT
      have Ff := Lib.hid f
      clear f hT
      go_wp2_with fail
      go_ret
      exact Ff.out
    · obtain ⟨h1, h2, -, hown, hbel⟩ := hT
      obtain ⟨hlt, hp⟩ := h2 rfl
      have hl := List.getElem?_eq_getElem hlt
      have hpp := hp _ hl
      have hz := hbel.size
      have Hle := Lib.hid (hdl.out j)
      have Hl := Lib.hid hl
      clear h2 hp hl
      go_wp2_with (at_builtin; refine wpList_append_own _ rfl _ _ 32 rfl w.heap.size 3 i0 (.int .i64 0) 1 8 Try.underlying32 hi hz0 hz1 hz2 rfl (by decide) _ _ _ rfl (hown.alloc _) ⟨wr.heap.size, 0, none⟩ 1 1 [.int .i64 (j : Int)] rfl rfl ?c1 ?c2 ?c3 ?c4 ?c5 ?_)
      case c1 =>
        intro i u hi
        match i, hi with
        | 0, hi => simp at hi; subst hi; simp [Addr.add]
      case c2 => intro u hu; simp at hu; subst hu; rfl
      case c3 => have := Hle.out; unfold maxLen; omega
      case c4 => have := Hle.out; omega
      case c5 => simp; omega
      intro v' w2 hown' hgrow' _
      have hstep := nats_more ⟨hown, hbel⟩ (x := j) (v' := v') (by simpa using hown') hgrow'
      have hn := nx.out w2 (j + 1) hstep.2 (by omega)
      have Hn := Lib.hid hn
      have Hs := Lib.hid hstep
      clear hown' hgrow' hown hbel hn hstep
      go_wp2_with fail
      refine Hn.out.mono ?_
      intro e w' hN
      obtain ⟨j', ok, rfl, hT, hjj, rfl⟩ := Told.step Hl.out hpp Hs.out hN
      clear hN Hs
      go_wp2_with fail
      go_roundw
      case rel => exact ⟨j', ok, rfl, rfl, hT⟩
      case measure => simp [intOf]; omega
end
end Go.Proofs.Ytdagdmfockibfaa
