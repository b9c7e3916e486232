/- Two slices of texts: whether they are one list (the reference's Texts). -/
import Derived.Test.YtcgplonnhginiaaCom7
import Derived.Test.YtcgplonnhginiaaCom6
import Derived.Deep.Slices
import Derived.OwnWalk
namespace Go.Proofs.Ytcgplonnhginiaa
open Go.RowKit

set_option maxRecDepth 100000 in
theorem Cells.below {w w' : World} {F : Nat → Prop} {v : Value} {us : List Value} (h : Cells w F v us) (k : Below w.heap.size w w') : Cells w' F v us := h.kept (Kept.ofBelow k (fun _ => False)) (fun _ _ h => h)

set_option maxRecDepth 100000 in
theorem below_drews' (w : World) (n : Nat) : Below w.heap.size w (w.drewN n) := ⟨rfl, rfl, rfl, Nat.le_refl _, fun _ _ => rfl⟩

set_option maxRecDepth 100000 in
set_option maxHeartbeats 1600000 in
/-- The same texts? -/
theorem texts_any {w : World} {F G : Nat → Prop} {u v : Value} {l m : List (List UInt8)} (hu : Cells w F u (texts l)) (hv : Cells w G v (texts m)) (hl : l.length ≤ 1000000) :
    Calls Try.prog 17 #[u, v] w fun e w' => e = .returned (.bool (decide (l = m))) ∧ Below w.heap.size w w' := by
  obtain ⟨uA, uc, rfl, huc, hua⟩ := hu
  obtain ⟨vA, vc, rfl, hvc, hva⟩ := hv
  rw [texts_len] at huc hua hvc hva ⊢
  rw [texts_len]
  have Hua := Lib.hid hua
  have Hva := Lib.hid hva
  clear hua hva
  by_cases hlm : l.length = m.length
  · rw [← hlm] at hvc ⊢
    have hl' : (l.length : Int) ≤ 1000000 := by omega
    have hne : ((l.length : Int) != (l.length : Int)) = false := by simp
    have Hlm := Lib.hid hlm
    clear hlm
    go_enter Try.func17, Try.ntmps17
    go_wp2_with fail
    go_loopw [5] (fun i wr => ∃ k : Nat, k ≤ l.length ∧ i = .int .i64 (k : Int) ∧ l.take k = m.take k ∧ Below w.heap.size w wr) (fun i _ => l.length - (intOf i).toNat)
    case atStart => exact ⟨0, Nat.zero_le _, rfl, rfl, Below.refl _ _⟩
    case round =>
      obtain ⟨k, hk, rfl, htk, hbel⟩ := hrel
      by_cases hlt : k < l.length
      · have hltm : k < m.length := by rw [← Hlm.out]; exact hlt
        obtain ⟨ub, uo, rfl, -, hub, huk⟩ := Hua.out (by omega)
        obtain ⟨vb, vo, rfl, -, hvb, hvk⟩ := Hva.out (by omega)
        obtain ⟨s, hs⟩ : ∃ s, l[k]? = some s := ⟨_, List.getElem?_eq_getElem hlt⟩
        obtain ⟨t, ht⟩ : ∃ t, m[k]? = some t := ⟨_, List.getElem?_eq_getElem hltm⟩
        have hc1 : wr.cell? ⟨ub, uo + k, none⟩ = some (.string (mk s)) := (hbel.cell (p := ⟨ub, uo + k, none⟩) hub).trans (huk k _ (texts_at hs))
        have hc2 : wr.cell? ⟨vb, vo + k, none⟩ = some (.string (mk t)) := (hbel.cell (p := ⟨vb, vo + k, none⟩) hvb).trans (hvk k _ (texts_at ht))
        have hk0 : (0 : Int) ≤ (k : Int) := by omega
        have hk1 : (k : Int) < (l.length : Int) := by omega
        have Hbel := Lib.hid hbel
        by_cases hst : s = t
        · have Hstep : Hid (l.take (k + 1) = m.take (k + 1)) := Lib.hid (by
            obtain ⟨i1, e1⟩ := List.getElem?_eq_some_iff.1 hs
            obtain ⟨i2, e2⟩ := List.getElem?_eq_some_iff.1 ht
            rw [List.take_succ_eq_append_getElem i1, List.take_succ_eq_append_getElem i2, htk, e1, e2, hst])
          have haa : ((mk s).toList == (mk t).toList) = true := by rw [hst]; exact beq_self_eq_true _
          generalize mk s = x at *
          generalize mk t = y at *
          clear huk hvk hs ht hst hbel htk hltm
          go_wp2_with fail
          go_quiet (fail)
          go_wp2_with fail
          refine ⟨⟨k + 1, by omega, rfl, Hstep.out, ?_⟩, ?_⟩
          · exact Hbel.out.trans ((below_drews' wr nq).mono Hbel.out.size)
          · show l.length - ((k : Int) + 1).toNat < l.length - (k : Int).toNat
            omega
        · have Hd : Hid (decide (l = m) = false) := Lib.hid (decide_eq_false (fun e => hst (by
            rw [e, ht] at hs
            injection hs with hs
            exact hs.symm)))
          have haa : ((mk s).toList == (mk t).toList) = false := by
            rw [beq_eq_false_iff_ne, Lib.toList_data, Lib.toList_data]; exact hst
          generalize mk s = x at *
          generalize mk t = y at *
          clear huk hvk hs ht hst hbel htk hltm
          go_wp2_with fail
          go_quiet (fail)
          go_wp2_with fail
          go_ret
          exact ⟨by rw [Hd.out]; rfl, Hbel.out.trans ((below_drews' wr nq).mono Hbel.out.size)⟩
      · obtain rfl : k = l.length := by omega
        have Hd : Hid (decide (l = m) = true) := Lib.hid (decide_eq_true (by
          rw [List.take_length, Hlm.out, List.take_length] at htk
          exact htk))
        have Hbel := Lib.hid hbel
        clear hbel htk
        go_wp2_with fail
        go_ret
        exact ⟨by rw [Hd.out]; rfl, Hbel.out⟩
  · have hne : ((l.length : Int) != (m.length : Int)) = true := by rw [bne_iff_ne]; omega
    have Hd : Hid (decide (l = m) = false) := Lib.hid (decide_eq_false (fun e => hlm (by rw [e])))
    clear hlm hl
    go_enter Try.func17, Try.ntmps17
    go_wp2_with fail
    go_ret
    exact ⟨by rw [Hd.out]; rfl, Below.refl _ _⟩

set_option maxRecDepth 100000 in
/-- Two slices of the same texts. -/
theorem texts_same {w : World} {F G : Nat → Prop} {u v : Value} {l : List (List UInt8)} (hu : Cells w F u (texts l)) (hv : Cells w G v (texts l)) (hl : l.length ≤ 1000000) :
    Calls Try.prog 17 #[u, v] w fun e w' => e = .returned (.bool true) ∧ Below w.heap.size w w' := by
  have := texts_any hu hv hl
  rw [decide_eq_true rfl] at this
  exact this

set_option maxRecDepth 100000 in
theorem strInfo : (Try.prog.info? 9).map (fun i => (i.zero, i.size, i.bytes)) = some (some (.string ⟨#[]⟩), 1, 16) := by kernel_rfl

set_option maxRecDepth 100000 in
theorem own_below {w w' : World} {base t size n : Nat} {v : Value} {xs : List Value} (h : w.ownsRow base t size v n xs) (k : Below w.heap.size w w') : w'.ownsRow base t size v n xs :=
  h.kept (Kept.ofBelow k (fun i => i = w.heap.size)).grown (Or.inr (fun e => by have := (h.lt _ e).2; omega))

/-- The call's own slice holds these texts. -/
def TextsOwn (w : World) (out : List (List UInt8)) (v : Value) (wr : World) : Prop := wr.ownsRow w.heap.size 9 1 v out.length (texts out) ∧ Below w.heap.size w wr

set_option maxRecDepth 100000 in
theorem texts_start (w : World) : TextsOwn w [] (.slice none 0 0) w := ⟨World.ownsRow_nil _ _ _ _, Below.refl _ _⟩

set_option maxRecDepth 100000 in
theorem TextsOwn.below {w w1 w2 : World} {out : List (List UInt8)} {v : Value} (h : TextsOwn w out v w1) (k : Below w1.heap.size w1 w2) : TextsOwn w out v w2 := ⟨own_below h.1 k, h.2.trans (k.mono h.2.size)⟩

set_option maxRecDepth 100000 in
theorem texts_more {w wr w2 : World} {out : List (List UInt8)} {v v' : Value} {o : Obj} {x : List UInt8} (h : TextsOwn w out v wr) (hown : w2.ownsRow w.heap.size 9 1 v' (out.length + 1) (texts out ++ [.string (mk x)])) (hg : (wr.alloc o).grownBy w2 v.ownBlock) :
    TextsOwn w (out ++ [x]) v' w2 := by
  obtain ⟨h1, h2⟩ := h
  refine ⟨?_, (h2.alloc h2.size o).grown hg (by have := h2.size; simp; omega) (fun k hk => (h1.lt k hk).1)⟩
  rw [List.length_append]
  simpa [texts] using hown

set_option maxRecDepth 100000 in
theorem TextsOwn.cells {w w' : World} {out : List (List UInt8)} {v : Value} (h : TextsOwn w out v w') : Cells w' (NewIn w w') v (texts out) := Cells.ofOwn h.1 (fun _ _ h1 h2 => ⟨h1, h2⟩)
end Go.Proofs.Ytcgplonnhginiaa
/- What the packages disk and journal are to answer to layer 5's laws (DiskUse, JournalOk), which is proved of the landed code elsewhere. -/
namespace Go.Proofs.Ytcgplonnhginiaa
open Go.RowKit Dsk Jnl

def Newly (w w' : World) (k : Nat) : Prop := w.heap.size ≤ k ∧ k < w'.heap.size

/-- What a call on a disk may do: the disk's own blocks, and new ones. -/
def Doing (At : World → (Nat → Prop) → Value → D → Prop) (w : World) (F : Nat → Prop) (v : Value) (d : D) (w' : World) : Prop := At w' (Grow F w w') v d ∧ Kept F w w'

/-- Of the disk's contracts those that layer 5's laws need. -/
structure DiskUse (At : World → (Nat → Prop) → Value → D → Prop) : Prop where
  kept : ∀ {w w' F G v d}, At w F v d → Kept G w w' → (∀ i, F i → ¬ G i) → At w' F v d
  lt : ∀ {w F v d}, At w F v d → ∀ k, F k → k < w.heap.size
  ptr : ∀ {w F v d}, At w F v d → ∃ p, v = .pointer (some p)
  new_ok : ∀ (n : Nat) (w : World), 1 ≤ n → n ≤ 4096 → Calls Try.prog 7 #[.int .i64 (n : Int)] w fun e w' => ∃ v, e = .returned (.tuple #[v, .int .i64 0]) ∧ At w' (Newly w w') v (Dsk.new n) ∧ Below w.heap.size w w'
  write : ∀ {w F v d N}, At w F v d → d.Fine N → N ≤ 100000 → ∀ (i : Int) (s : ByteArray), -9223372036854775808 ≤ i → i ≤ 9223372036854775807 → s.size ≤ 9223372036854775807 →
    Calls Try.prog 25 #[v, .int .i64 i, .string s] w fun e w' => e = .returned (.int .i64 (d.write i s).1) ∧ Doing At w F v (d.write i s).2 w'
  read : ∀ {w F v d N}, At w F v d → d.Fine N → N ≤ 100000 → ∀ (i : Int), -9223372036854775808 ≤ i → i ≤ 9223372036854775807 →
    Calls Try.prog 22 #[v, .int .i64 i] w fun e w' => e = .returned (.tuple #[.string (d.read i).1, .int .i64 (d.read i).2]) ∧ Doing At w F v d w'
  flush : ∀ {w F v d N}, At w F v d → d.Fine N → N ≤ 100000 → Calls Try.prog 26 #[v] w fun e w' => e = .returned (.int .i64 d.flush.1) ∧ Doing At w F v d.flush.2 w'
  arm : ∀ {w F v d N}, At w F v d → d.Fine N → N ≤ 100000 → ∀ (n : Int), -9223372036854775808 ≤ n → n ≤ 9223372036854775807 →
    Calls Try.prog 12 #[v, .int .i64 n] w fun e w' => e = .returned (.tuple #[]) ∧ Doing At w F v (d.arm n) w'
  crash : ∀ {w F G v d N kv ks}, At w F v d → d.Fine N → N ≤ 100000 → Cells w G kv (ks.map (Value.int .i64)) → (∀ i, G i → ¬ F i) → (∀ x ∈ ks, -9223372036854775808 ≤ x ∧ x ≤ 9223372036854775807) → ks.length ≤ 9223372036854775807 →
    Calls Try.prog 16 #[v, kv] w fun e w' => e = .returned (.tuple #[]) ∧ Doing At w F v (d.crash ks) w'

/-- A disk and a journal on it, of blocks of F. -/
def JAt (At : World → (Nat → Prop) → Value → D → Prop) (Own : World → (Nat → Prop) → Value → Value → Nat → J → Prop) (w : World) (F : Nat → Prop) (dv jv : Value) (n : Nat) (d : D) (j : J) : Prop :=
  ∃ F1 F2, At w F1 dv d ∧ Own w F2 dv jv n j ∧ (∀ k, F1 k → ¬ F2 k) ∧ (∀ k, F1 k → F k) ∧ ∀ k, F2 k → F k

/-- A journal's disk, and its sectors. -/
structure Sound (n : Nat) (d : D) (N : Nat) : Prop where
  shape : Shape n d
  fine : d.Fine N
  four : 4 ≤ n
  full : ∀ k, k < n → (Jnl.now d k).data.toList.length = 64

structure JournalOk (At : World → (Nat → Prop) → Value → D → Prop) (Own : World → (Nat → Prop) → Value → Value → Nat → J → Prop) : Prop where
  kept : ∀ {w w' F G dv jv n j}, Own w F dv jv n j → Kept G w w' → (∀ i, F i → ¬ G i) → Own w' F dv jv n j
  lt : ∀ {w F dv jv n j}, Own w F dv jv n j → ∀ k, F k → k < w.heap.size
  ptr : ∀ {w F dv jv n j}, Own w F dv jv n j → ∃ p, jv = .pointer (some p)
  format : ∀ {w F dv n d N}, At w F dv d → Sound n d N → N + 3 ≤ 100000 → Calls Try.prog 8 #[dv] w fun e w' => e = .returned (.int .i64 (Jnl.format d).1) ∧ Doing At w F dv (Jnl.format d).2 w'
  format_few : ∀ {w F dv d N}, At w F dv d → d.Fine N → N ≤ 100000 → d.S.length < 4 → Calls Try.prog 8 #[dv] w fun e w' => e = .returned (.int .i64 2) ∧ Doing At w F dv d w'
  format_none : ∀ w, Calls Try.prog 8 #[.pointer none] w fun e w' => e = .returned (.int .i64 1) ∧ Below w.heap.size w w'
  opened : ∀ {w F dv n d N j l}, At w F dv d → Sound n d N → N ≤ 100000 → d.down = false → opens n (Jnl.now d) = (0, some j, l) →
    Calls Try.prog 10 #[dv] w fun e w' => ∃ jv lv G H, e = .returned (.tuple #[jv, lv, .int .i64 0]) ∧ JAt At Own w' G dv jv n d j ∧ Cells w' H lv (texts l) ∧ (∀ k, G k → ¬ H k) ∧ (∀ k, G k → Grow F w w' k) ∧ (∀ k, H k → Newly w w' k) ∧ Kept F w w'
  refused : ∀ {w F dv n d N x}, At w F dv d → Sound n d N → N ≤ 100000 → d.down = false → opens n (Jnl.now d) = (x, none, []) →
    Calls Try.prog 10 #[dv] w fun e w' => ∃ A c, e = .returned (.tuple #[.pointer none, .slice A 0 c, .int .i64 x]) ∧ Doing At w F dv d w'
  open_few : ∀ {w F dv d N}, At w F dv d → d.Fine N → N ≤ 100000 → d.S.length < 4 → Calls Try.prog 10 #[dv] w fun e w' => ∃ A c, e = .returned (.tuple #[.pointer none, .slice A 0 c, .int .i64 2]) ∧ Doing At w F dv d w'
  open_none : ∀ w, Calls Try.prog 10 #[.pointer none] w fun e w' => ∃ A c, e = .returned (.tuple #[.pointer none, .slice A 0 c, .int .i64 1]) ∧ Below w.heap.size w w'
  append : ∀ {w F G dv jv lv n d j N a}, JAt At Own w F dv jv n d j → Sound n d N → N ≤ 100000 → (j.broken = true ∨ (Held n d j ∧ N + hof n + 3 ≤ 100000)) → Cells w G lv (texts a) → (∀ k, G k → ¬ F k) → a.length ≤ 100000 → (∀ t ∈ a, t.length ≤ 16777216) →
    Calls Try.prog 14 #[jv, lv] w fun e w' => e = .returned (.int .i64 (Jnl.append n d j a).1) ∧ JAt At Own w' (Grow F w w') dv jv n (Jnl.append n d j a).2.1 (Jnl.append n d j a).2.2 ∧ Kept F w w'
  rewrite : ∀ {w F G dv jv lv n d j N a}, JAt At Own w F dv jv n d j → Sound n d N → N ≤ 100000 → (j.broken = true ∨ (Held n d j ∧ N + hof n + 3 ≤ 100000)) → Cells w G lv (texts a) → (∀ k, G k → ¬ F k) → a.length ≤ 100000 → (∀ t ∈ a, t.length ≤ 16777216) →
    Calls Try.prog 13 #[jv, lv] w fun e w' => e = .returned (.int .i64 (Jnl.rewrite n d j a).1) ∧ JAt At Own w' (Grow F w w') dv jv n (Jnl.rewrite n d j a).2.1 (Jnl.rewrite n d j a).2.2 ∧ Kept F w w'
  seq : ∀ {w F dv jv n d j}, JAt At Own w F dv jv n d j → Calls Try.prog 19 #[jv] w fun e w' => e = .returned (.int .i64 (j.seq : Int)) ∧ JAt At Own w' (Grow F w w') dv jv n d j ∧ Kept F w w'
  used : ∀ {w F dv jv n d j}, JAt At Own w F dv jv n d j → Calls Try.prog 20 #[jv] w fun e w' => e = .returned (.int .i64 (j.bytes.length : Int)) ∧ JAt At Own w' (Grow F w w') dv jv n d j ∧ Kept F w w'
  room : ∀ {w F dv jv n d j}, JAt At Own w F dv jv n d j → d.S.length = n → Calls Try.prog 21 #[jv] w fun e w' => e = .returned (.int .i64 ((64 * hof n : Nat) - (j.bytes.length : Int))) ∧ JAt At Own w' (Grow F w w') dv jv n d j ∧ Kept F w w'
  broken : ∀ {w F dv jv n d j}, JAt At Own w F dv jv n d j → Calls Try.prog 15 #[jv] w fun e w' => e = .returned (.bool j.broken) ∧ JAt At Own w' (Grow F w w') dv jv n d j ∧ Kept F w w'
  none_append : ∀ w lv, Calls Try.prog 14 #[.pointer none, lv] w fun e w' => e = .returned (.int .i64 1) ∧ Below w.heap.size w w'
  none_rewrite : ∀ w lv, Calls Try.prog 13 #[.pointer none, lv] w fun e w' => e = .returned (.int .i64 1) ∧ Below w.heap.size w w'
  none_seq : ∀ w, Calls Try.prog 19 #[.pointer none] w fun e w' => e = .returned (.int .i64 0) ∧ Below w.heap.size w w'
  none_used : ∀ w, Calls Try.prog 20 #[.pointer none] w fun e w' => e = .returned (.int .i64 0) ∧ Below w.heap.size w w'
  none_room : ∀ w, Calls Try.prog 21 #[.pointer none] w fun e w' => e = .returned (.int .i64 0) ∧ Below w.heap.size w w'
  none_broken : ∀ w, Calls Try.prog 15 #[.pointer none] w fun e w' => e = .returned (.bool true) ∧ Below w.heap.size w w'

section
variable {At : World → (Nat → Prop) → Value → D → Prop} {Own : World → (Nat → Prop) → Value → Value → Nat → J → Prop} {w w' : World} {F G : Nat → Prop} {dv jv : Value} {n : Nat} {d : D} {j : J} {N : Nat}

set_option maxRecDepth 100000 in
theorem JAt.lt (U : DiskUse At) (H : JournalOk At Own) (h : JAt At Own w F dv jv n d j) : JAt At Own w (fun k => F k ∧ k < w.heap.size) dv jv n d j := by
  obtain ⟨F1, F2, h1, h2, h3, h4, h5⟩ := h
  exact ⟨F1, F2, h1, h2, h3, fun k hk => ⟨h4 k hk, U.lt h1 k hk⟩, fun k hk => ⟨h5 k hk, H.lt h2 k hk⟩⟩

set_option maxRecDepth 100000 in
theorem JAt.kept (U : DiskUse At) (H : JournalOk At Own) (h : JAt At Own w F dv jv n d j) (k : Kept G w w') (hd : ∀ i, F i → ¬ G i) : JAt At Own w' F dv jv n d j := by
  obtain ⟨F1, F2, h1, h2, h3, h4, h5⟩ := h
  exact ⟨F1, F2, U.kept h1 k (fun i hi => hd i (h4 i hi)), H.kept h2 k (fun i hi => hd i (h5 i hi)), h3, h4, h5⟩

set_option maxRecDepth 100000 in
/-- A call of the disk alone leaves the journal as it is. -/
theorem JAt.disk (H : JournalOk At Own) {fn : Nat} {args : Array Value} {Q : Ending → Prop} {d' : D} (h : JAt At Own w F dv jv n d j)
    (hc : ∀ F1, At w F1 dv d → Calls Try.prog fn args w fun e w' => Q e ∧ Doing At w F1 dv d' w') :
    Calls Try.prog fn args w fun e w' => Q e ∧ JAt At Own w' (Grow F w w') dv jv n d' j ∧ Kept F w w' := by
  obtain ⟨F1, F2, h1, h2, h3, h4, h5⟩ := h
  refine (hc F1 h1).mono fun e w' ⟨hq, ha, hk⟩ => ⟨hq, ⟨Grow F1 w w', F2, ha, H.kept h2 hk (fun i hi hf => h3 i hf hi), fun k hk1 hk2 => ?_, fun k hk1 => ?_, fun k hk1 => Or.inl (h5 k hk1)⟩, hk.mono h4⟩
  · rcases hk1 with hk1 | hk1
    · exact h3 k hk1 hk2
    · have := H.lt h2 k hk2; omega
  · rcases hk1 with hk1 | hk1
    · exact Or.inl (h4 k hk1)
    · exact Or.inr hk1
end
end Go.Proofs.Ytcgplonnhginiaa
