/- Every call of a disk is answered as the document says: DiskDoes's walk, out of what the package is to answer (DiskOk). -/
import Derived.Test.YtdagdmfockibfaaActs
import Derived.Test.YtdagdmfockibfaaDiskSolo
namespace Go.Proofs.Ytdagdmfockibfaa
open Go.RowKit Dsk

section
variable {P : Program} {ops : Array Oper} {Q : Exit → Act → World → Prop} {md : Region.Mode}
/-- What is held may be made more on the way. -/
theorem wpAnyH_more {S S' : World → Prop} (h : ∀ w, S' w → S w) : ∀ {fuel : Nat} {listed : Array Bool} {a : Act} {w : World}, wpAnyH P md ops Q S' fuel listed a w → wpAnyH P md ops Q S fuel listed a w
  | 0, _, _, _, k => k
  | _ + 1, _, _, _, k => ⟨k.1, fun i hi => wpOp_mono (fun _ w' k' => ⟨h w' k'.1, wpAnyH_more h k'.2⟩) (k.2 i hi)⟩
end

theorem act_fine {a : Ac} {W : World} {d : D} {N : Nat} (ha : a.Ok W) (h : d.Fine N) : (a.act d).Fine (N + 1) := by
  unfold Ac.act actOn
  split
  · exact h.mono (by omega)
  · split
    · exact h.flush
    · split
      · exact (h.arm _ ha.n2).mono (by omega)
      · split
        · exact (h.crash _).mono (by omega)
        · exact h.write _ _

theorem act_len (a : Ac) (d : D) : (a.act d).S.length = d.S.length := by
  unfold Ac.act actOn
  repeat' split
  all_goals first | rfl | exact flush_len d | exact crash_len d _ | exact write_len d _ _

/-- The disk behind the first k acts. -/
def after (d : D) (l : List Ac) (k : Nat) : D := (l.take k).foldl (fun d a => a.act d) d

theorem after_more {d : D} {l : List Ac} {k : Nat} {a : Ac} (h : l[k]? = some a) : after d l (k + 1) = a.act (after d l k) := by
  obtain ⟨hl, he⟩ := List.getElem?_eq_some_iff.1 h
  unfold after
  rw [List.take_succ_eq_append_getElem hl, he, List.foldl_append]
  rfl

theorem after_fine {d : D} {N : Nat} {l : List Ac} {W : World} (ha : ∀ a ∈ l, a.Ok W) (h : d.Fine N) : ∀ k, (after d l k).Fine (N + k)
  | 0 => h
  | k + 1 => by
    by_cases hk : k < l.length
    · have e := List.getElem?_eq_getElem hk
      rw [after_more e]
      exact act_fine (ha _ (List.getElem_mem hk)) (after_fine ha h k)
    · have : after d l (k + 1) = after d l k := by
        unfold after
        rw [List.take_of_length_le (by omega), List.take_of_length_le (by omega)]
      rw [this]
      exact (after_fine ha h k).mono (by omega)

theorem after_len (d : D) (l : List Ac) (k : Nat) : (after d l k).S.length = d.S.length := by
  unfold after
  generalize l.take k = m
  induction m generalizing d with
  | nil => rfl
  | cons a m ih => exact (ih (a.act d)).trans (act_len a d)

section
variable {At : World → (Nat → Prop) → Value → D → Prop} {W w : World} {v : Value} {b : Nat} {d : D} {N : Nat}

theorem Sync.disk (h : Sync At W v b d w) {fn : Nat} {args : Array Value} {P : Ending → Prop} {d2 : D} (hc : ∀ F, At w F v d → Calls Try.prog fn args w fun e w' => P e ∧ Does At w F v d2 w') (h2 : d2 = d) :
    Calls Try.prog fn args w fun e w' => P e ∧ Sync At W v b d w' := by
  subst h2
  exact (h.half.disk hc).mono fun e w' ⟨k1, k2, _⟩ => ⟨k1, k2.sync⟩

theorem sync_dirty (H : DiskOk At) (h : Sync At W v b d w) (hf : d.Fine N) (hN : N ≤ 1000) :
    Calls Try.prog 14 #[v] w fun e w' => ∃ u, e = .returned u ∧ Cells w' (fun _ => True) u (nats d.dirty) ∧ Sync At W v b d w' := by
  obtain ⟨⟨F, G, h1, h2, h3, h4, h5⟩, h6⟩ := h
  refine (H.dirty h1 hf hN).mono ?_
  rintro e w' ⟨u, rfl, k0, k1, k2⟩
  refine ⟨u, rfl, k0.mono (fun _ _ => trivial), ⟨⟨Grow F w w', G, k1, h2.kept k2 (fun i hi hf => h3 i hf hi), fun i hi hg => ?_, fun i hi => ?_, h5⟩, kept_lower h6 k2 h4⟩⟩
  · rcases hi with hi | hi
    · exact h3 i hi hg
    · have := h2.lt i hg; omega
  · rcases hi with hi | hi
    · exact h4 i hi
    · exact Nat.le_trans h6.size hi.1

theorem sync_refdirty (H : DiskOk At) (h : Sync At W v b d w) (hf : d.Fine N) (hN : N ≤ 1000) :
    Calls Try.prog 15 #[.pointer (some ⟨b, 0, none⟩)] w fun e w' => ∃ u, e = .returned u ∧ Cells w' (fun _ => True) u (nats d.dirty) ∧ Below w.heap.size w w' ∧ Sync At W v b d w' := by
  obtain ⟨⟨F, G, h1, h2, h3, h4, h5⟩, h6⟩ := h
  refine (ref_dirties h2 hf (Nat.le_trans hN (by decide))).mono ?_
  rintro e w' ⟨u, rfl, k0, k1⟩
  exact ⟨u, rfl, Cells.ofOwn k0 (fun _ _ _ _ => trivial), k1, Sync.below H ⟨⟨F, G, h1, h2, h3, h4, h5⟩, h6⟩ k1⟩

theorem sync_ints (H : DiskOk At) {u1 u2 : Value} (h1 : Cells w (fun _ => True) u1 (nats d.dirty)) (h2 : Cells w (fun _ => True) u2 (nats d.dirty)) (h : Sync At W v b d w) (hf : d.Fine N) :
    Calls Try.prog 13 #[u1, u2] w fun e w' => e = .returned (.bool true) ∧ Sync At W v b d w' :=
  (ints_same h1 h2 (by have := dirtyFrom_len d.S 0; have := hf.len; unfold D.dirty; omega)).mono fun e w' ⟨k1, k2⟩ => ⟨k1, h.below H k2⟩

theorem sync_read (H : DiskOk At) (h : Sync At W v b d w) (hf : d.Fine N) (hN : N ≤ 1000) (hd : d.down = false) {k : Nat} (hk : k < d.S.length) :
    Calls Try.prog 18 #[v, .int .i64 (k : Int)] w fun e w' => e = .returned (.tuple #[.string (last (d.at k)), .int .i64 0]) ∧ Sync At W v b d w' := by
  have hl := hf.len
  have e : d.read (k : Int) = (last (d.at k), 0) := by
    unfold D.read
    rw [if_neg (by rw [hd]; decide), if_neg (by omega)]
    rfl
  refine h.disk (fun F hF => ?_) rfl
  have := H.read hF hf hN (k : Int) (by omega) (by omega)
  rw [e] at this
  exact this

theorem sync_refread (H : DiskOk At) (h : Sync At W v b d w) (hf : d.Fine N) (hN : N ≤ 1000) {k : Nat} (hk : k < d.S.length) :
    Calls Try.prog 19 #[.pointer (some ⟨b, 0, none⟩), .int .i64 (k : Int)] w fun e w' => e = .returned (.string (last (d.at k))) ∧ Sync At W v b d w' := by
  obtain ⟨⟨F, G, h1, h2, h3, h4, h5⟩, h6⟩ := h
  refine (ref_reads h2 hf (Nat.le_trans hN (by decide)) hk).mono ?_
  rintro e w' ⟨rfl, n, rfl⟩
  exact ⟨rfl, Sync.below H ⟨⟨F, G, h1, h2, h3, h4, h5⟩, h6⟩ (below_drews w n)⟩

/-- Both crash and keep nothing. -/
theorem sync_crash (H : DiskOk At) (h : Sync At W v b d w) (hf : d.Fine N) (hN : N ≤ 1000) :
    Calls Try.prog 16 #[v, .slice none 0 0] w fun e w' => e = .returned (.tuple #[]) ∧ Half At W W (fun _ => False) (fun _ => False) v b (d.crash []) d w' :=
  (h.half.disk (fun F hF => H.crash (ks := []) hF hf hN (Cells.none w (fun _ => False)) (fun _ h => h.elim) ⟨by simp, by simp⟩)).mono fun e w' ⟨k1, k2, _⟩ => ⟨k1, k2⟩

theorem sync_refcrash (H : DiskOk At) (h : Half At W W (fun _ => False) (fun _ => False) v b (d.crash []) d w) (hf : d.Fine N) (hN : N ≤ 1000) :
    Calls Try.prog 17 #[.pointer (some ⟨b, 0, none⟩), .slice none 0 0] w fun e w' => e = .returned (.tuple #[]) ∧ Sync At W v b (d.crash []) w' :=
  (h.ref H (fun G hG => ref_crashes (ks := []) hG hf (Nat.le_trans hN (by decide)) (Cells.none w (fun _ => False)) (fun h => h) (by simp) (by simp))).mono fun e w' ⟨k1, k2, _⟩ => ⟨k1, k2.sync⟩

set_option maxRecDepth 100000 in
set_option maxHeartbeats 800000 in
theorem does_bad (H : DiskOk At) (n : Int) (lA : Option Addr) (ln lc : Nat) (w : World) (hn : n < 1 ∨ 4096 < n) :
    Calls Try.prog 3 #[.int .i64 n, .slice lA ln lc] w fun e w' => e = .returned (.bool true) ∧ Below w.heap.size w w' := by
  have hnew := Lib.hid (H.new_no n w hn)
  have haw := fun W => disk_awake H W
  have Haw := Lib.hid haw
  clear haw H
  rcases hn with hn | hn
  · go_enter Try.func3, Try.ntmps3
    go_wp2_with fail
    refine hnew.out.mono ?_
    rintro e w1 ⟨rfl, hb1⟩
    have hb1 := Lib.hid hb1
    go_wp2_with fail
    refine (Haw.out w1).mono ?_
    rintro e w2 ⟨rfl, hb2⟩
    have hb2 := Lib.hid hb2
    go_wp2_with fail
    go_ret
    exact ⟨rfl, hb1.out.trans (hb2.out.mono hb1.out.size)⟩
  · have hn1 : (1 : Int) ≤ n := by omega
    go_enter Try.func3, Try.ntmps3
    go_wp2_with fail
    refine hnew.out.mono ?_
    rintro e w1 ⟨rfl, hb1⟩
    have hb1 := Lib.hid hb1
    go_wp2_with fail
    refine (Haw.out w1).mono ?_
    rintro e w2 ⟨rfl, hb2⟩
    have hb2 := Lib.hid hb2
    go_wp2_with fail
    go_ret
    exact ⟨rfl, hb1.out.trans (hb2.out.mono hb1.out.size)⟩

theorem solo_len (H : DiskOk At) {Z : Nat → Prop} (h : Solo At W Z v d w) (hf : d.Fine N) (hN : N ≤ 1000) : Calls Try.prog 8 #[v] w fun e w' => e = .returned (.int .i64 (d.S.length : Int)) ∧ Solo At W Z v d w' :=
  (h.call (fun _ hF _ => H.len hF hf hN)).mono fun _ _ ⟨k1, k2, _⟩ => ⟨k1, k2⟩

theorem new_length (n : Nat) : (Dsk.new n).S.length = n := List.length_replicate

set_option maxRecDepth 100000 in
set_option maxHeartbeats 800000 in
theorem does_big (H : DiskOk At) (n : Nat) (lA : Option Addr) (ln lc : Nat) (w : World) (h1 : 20 < n) (h2 : n ≤ 4096) :
    Calls Try.prog 3 #[.int .i64 (n : Int), .slice lA ln lc] w fun e w' => e = .returned (.bool true) ∧ Below w.heap.size w w' := by
  have hnew := Lib.hid (solo_new H n w (by omega) h2)
  have hlen : Hid (∀ p W, Solo At w (fun _ => False) (.pointer (some p)) (Dsk.new n) W → Calls Try.prog 8 #[.pointer (some p)] W fun e w' => e = .returned (.int .i64 (n : Int)) ∧ Solo At w (fun _ => False) (.pointer (some p)) (Dsk.new n) w') := Lib.hid (fun p W h => by
    have := solo_len H h (Dsk.new_fine n h2) (by decide)
    rw [new_length] at this
    exact this)
  have haw := fun W => disk_awake H W
  have Haw := Lib.hid haw
  have hnn : ((n : Int) != (n : Int)) = false := by simp
  have h1' : (20 : Int) < (n : Int) := by omega
  have h2' : (n : Int) ≤ 4096 := by omega
  clear haw H
  go_enter Try.func3, Try.ntmps3
  go_wp2_with fail
  refine hnew.out.mono ?_
  rintro e w1 ⟨p, rfl, hs1⟩
  have hs1 := Lib.hid hs1
  go_wp2_with fail
  refine (hlen.out p w1 hs1.out).mono ?_
  rintro e w2 ⟨rfl, hs2⟩
  have hs2 := Lib.hid hs2
  go_wp2_with fail
  refine (Haw.out w2).mono ?_
  rintro e w3 ⟨rfl, hb3⟩
  have hb3 := Lib.hid hb3
  go_wp2_with fail
  go_ret
  exact ⟨rfl, hs2.out.bel.trans (hb3.out.mono hs2.out.bel.size)⟩

theorem solo_sync (H : DiskOk At) {p : Addr} {w1 w2 : World} {x : Value} (h : Solo At w (fun _ => False) (.pointer (some p)) d w1) (hb : Below w1.heap.size w1 w2) (hx : RefAt w2 (fun j => w1.heap.size ≤ j ∧ j < w2.heap.size) x d) :
    ∃ b, x = .pointer (some ⟨b, 0, none⟩) ∧ Sync At w (.pointer (some p)) b d w2 := by
  obtain ⟨b, sv, rfl, k1, k2, k3⟩ := hx
  obtain ⟨⟨F, m1, m2⟩, m3, _⟩ := h
  refine ⟨b, rfl, ⟨⟨F, fun j => w1.heap.size ≤ j ∧ j < w2.heap.size, H.kept m1 (Kept.ofBelow hb (fun _ => False)) (fun _ _ h => h), ⟨⟨sv, k2, k3⟩, k1, fun i hi => hi.2⟩, fun i hi hg => ?_, fun i hi => (m2 i hi).1, fun i hi => Nat.le_trans m3.size hi.1⟩, m3.trans (hb.mono m3.size)⟩⟩
  have := H.lt m1 i hi
  omega

set_option linter.unusedSimpArgs false in
set_option maxRecDepth 100000 in
set_option maxHeartbeats 6400000 in
theorem does_few (H : DiskOk At) (n : Nat) (lA : Option Addr) (ln lc : Nat) (l : List Ac) (w : World) (h1 : 1 ≤ n) (h2 : n ≤ 20) (hlc : ln ≤ 9223372036854775807) (hl : ActsIn w lA ln l) :
    Calls Try.prog 3 #[.int .i64 (n : Int), .slice lA ln lc] w fun e w' => e = .returned (.bool true) ∧ Below w.heap.size w w' := by
  obtain ⟨hll, hok, hat⟩ := hl
  have f0 := Dsk.new_fine n (by omega)
  have hnew := Lib.hid (solo_new H n w (by omega) (by omega))
  have hlen : Hid (∀ p W, Solo At w (fun _ => False) (.pointer (some p)) (Dsk.new n) W → Calls Try.prog 8 #[.pointer (some p)] W fun e w' => e = .returned (.int .i64 (n : Int)) ∧ Solo At w (fun _ => False) (.pointer (some p)) (Dsk.new n) w') := Lib.hid (fun p W h => by
    have := solo_len H h f0 (by decide)
    rw [new_length] at this
    exact this)
  have haw := fun W => disk_awake H W
  have Haw := Lib.hid haw
  have hrn := fun W => ref_new n (by omega) W
  have Hrn := Lib.hid hrn
  have HH := Lib.hid H
  have Hok := Lib.hid hok
  have Hat := Lib.hid hat
  have Hll := Lib.hid hll
  have hfine : Hid (∀ k, k ≤ 80 → (after (Dsk.new n) l k).Fine 80) := Lib.hid (fun k hk => by
    have := after_fine hok f0 k
    exact this.mono (by omega))
  have hlen2 : Hid (∀ k, (after (Dsk.new n) l k).S.length = n) := Lib.hid (fun k => by rw [after_len, new_length])
  have hnn : ((n : Int) != (n : Int)) = false := by simp
  have h1' : (1 : Int) ≤ (n : Int) := by omega
  have h2' : (n : Int) ≤ 20 := by omega
  have hlc' : (ln : Int) ≤ 9223372036854775807 := by omega
  clear haw H hok hat hll hrn f0
  go_enter Try.func3, Try.ntmps3
  go_wp2_with fail
  refine hnew.out.mono ?_
  rintro e w1 ⟨p, rfl, hs1⟩
  have hs1 := Lib.hid hs1
  go_wp2_with fail
  refine (hlen.out p w1 hs1.out).mono ?_
  rintro e w2 ⟨rfl, hs2⟩
  have hs2 := Lib.hid hs2
  go_wp2_with fail
  refine (Haw.out w2).mono ?_
  rintro e w3 ⟨rfl, hb3⟩
  have hs3 := Lib.hid (hs2.out.below HH.out hb3).1
  clear hb3
  go_wp2_with fail
  refine (Hrn.out w3).mono ?_
  rintro e w4 ⟨x, rfl, hx4, hb4⟩
  obtain ⟨b, rfl, hsy⟩ := solo_sync HH.out hs3.out hb4 hx4
  have h0 : Sync At w (.pointer (some p)) b (after (Dsk.new n) l 0) w4 := hsy
  clear hx4 hb4 hsy
  go_wp2_with fail
  go_loopw [8] (fun i wr => ∃ k : Nat, k ≤ ln ∧ k ≤ 80 ∧ i = .int .i64 (k : Int) ∧ Sync At w (.pointer (some p)) b (after (Dsk.new n) l k) wr) (fun i _ => 80 - (intOf i).toNat)
  case atStart => exact ⟨0, Nat.zero_le _, Nat.zero_le _, rfl, h0⟩
  case round =>
    obtain ⟨k, hk1, hk2, rfl, hsy⟩ := hrel
    clear h0
    by_cases hlt : k < ln ∧ k < 80
    · obtain ⟨q1, q2⟩ := hlt
      obtain ⟨lb, lo, rfl, hlb, hcells⟩ := Hat.out (by omega)
      have hkl : k < l.length := by rw [Hll.out]; exact q1
      obtain ⟨a, ha⟩ : ∃ a, l[k]? = some a := ⟨_, List.getElem?_eq_getElem hkl⟩
      have hao := Hok.out a (List.mem_of_getElem? ha)
      obtain ⟨g0, g1, g2, g3, g4⟩ := hcells k a ha
      have hb1 : decide (k < ln) = true := by simpa using q1
      have hb2 : decide ((k : Int) < 80) = true := by simp; omega
      have hb0 : (0 : Int) ≤ (k : Int) := by omega
      have hb4 : (k : Int) < (ln : Int) := by omega
      obtain ⟨d1, hd1⟩ : ∃ d1, d1 = after (Dsk.new n) l k := ⟨_, rfl⟩
      have f1 : d1.Fine 80 := by rw [hd1]; exact hfine.out k (by omega)
      obtain ⟨d2, hd2⟩ : ∃ d2, d2 = a.act d1 := ⟨_, rfl⟩
      have hd3 : Hid (after (Dsk.new n) l (k + 1) = d2) := Lib.hid (by rw [hd2, hd1]; exact after_more ha)
      have f2 : d2.Fine 80 := by rw [← hd3.out]; exact hfine.out (k + 1) (by omega)
      rw [← hd1] at hsy
      have hsy0 : Hid (Sync At w (.pointer (some p)) b d1 wr.drew) := Lib.hid (hsy.below HH.out (below_drew wr))
      have Hbel := Lib.hid hsy.bel
      have C6 : Hid (∀ W', Sync At w (.pointer (some p)) b d1 W' → Calls Try.prog 10 #[.pointer (some p), .pointer (some ⟨b, 0, none⟩), .agg #[.int .i64 a.kind, .int .i64 a.i, .int .i64 a.n, .string a.s, .slice a.kA a.kn a.kc]] W' fun e w' => e = .returned (.bool true) ∧ Sync At w (.pointer (some p)) b d2 w') := Lib.hid (fun W' h => by
        rw [hd2]
        exact (do_any HH.out h.half f1 (by decide) hao).mono fun e w' ⟨k1, k2⟩ => ⟨k1, k2.sync⟩)
      have C10 : Hid (∀ W', Sync At w (.pointer (some p)) b d2 W' → Calls Try.prog 11 #[.pointer (some p)] W' fun e w' => e = .returned (.bool d2.down) ∧ Sync At w (.pointer (some p)) b d2 w') := Lib.hid (fun W' h => h.disk (fun F hF => HH.out.down hF f2 (by decide)) rfl)
      have C19 : Hid (∀ W', Sync At w (.pointer (some p)) b d2 W' → Calls Try.prog 12 #[.pointer (some p)] W' fun e w' => e = .returned (.int .i64 (d2.calls : Int)) ∧ Sync At w (.pointer (some p)) b d2 w') := Lib.hid (fun W' h => h.disk (fun F hF => HH.out.calls hF f2 (by decide)) rfl)
      have C28 : Hid (∀ W', Sync At w (.pointer (some p)) b d2 W' → Calls Try.prog 14 #[.pointer (some p)] W' fun e w' => ∃ u, e = .returned u ∧ Cells w' (fun _ => True) u (nats d2.dirty) ∧ Sync At w (.pointer (some p)) b d2 w') := Lib.hid (fun W' h => sync_dirty HH.out h f2 (by decide))
      have C30 : Hid (∀ W', Sync At w (.pointer (some p)) b d2 W' → Calls Try.prog 15 #[.pointer (some ⟨b, 0, none⟩)] W' fun e w' => ∃ u, e = .returned u ∧ Cells w' (fun _ => True) u (nats d2.dirty) ∧ Below W'.heap.size W' w' ∧ Sync At w (.pointer (some p)) b d2 w') := Lib.hid (fun W' h => sync_refdirty HH.out h f2 (by decide))
      have C31 : Hid (∀ W' u1 u2 (_ : True), Cells W' (fun _ => True) u1 (nats d2.dirty) → Cells W' (fun _ => True) u2 (nats d2.dirty) → Sync At w (.pointer (some p)) b d2 W' → Calls Try.prog 13 #[u1, u2] W' fun e w' => e = .returned (.bool true) ∧ Sync At w (.pointer (some p)) b d2 w') := Lib.hid (fun W' u1 u2 _ e1 e2 h => sync_ints HH.out e1 e2 h f2)
      have Q := Lib.hid (And.intro q1 q2)
      clear ha hd1 hd2 hao f1 f2 hsy hcells q1 q2 hkl
      go_wp2_with fail
      refine wp_region_held_drew (S := fun w' => Below w.heap.size w w') (by kernel_rfl) (Hbel.out.drew) (fun hHeld => ?_)
      refine wpAnyH_take (i := 0) (v := ?_) rfl (by kernel_rfl) (by kernel_rfl) (by kernel_rfl) (fun _ _ _ h => h) (Or.inl ⟨by rfl, (by intro w hSw; go_simp; try with_reducible rfl)⟩) (by assumption) ?_
      simp only [Act.put, List.getElem_toArray, List.getElem_cons_zero, List.getElem_cons_succ, List.setIfInBounds_toArray, List.set_cons_zero, List.set_cons_succ]
      refine wpAnyH_take (i := 1) (v := ?_) rfl (by kernel_rfl) (by kernel_rfl) (by kernel_rfl) (fun _ _ _ h => h) (Or.inl ⟨by rfl, (by intro w hSw; go_simp; try with_reducible rfl)⟩) (by assumption) ?_
      simp only [Act.put, List.getElem_toArray, List.getElem_cons_zero, List.getElem_cons_succ, List.setIfInBounds_toArray, List.set_cons_zero, List.set_cons_succ]
      refine wpAnyH_take (i := 2) (v := ?_) rfl (by kernel_rfl) (by kernel_rfl) (by kernel_rfl) (fun _ _ _ h => h) (Or.inl ⟨by rfl, (by intro w hSw; go_simp; try with_reducible rfl)⟩) (by assumption) ?_
      simp only [Act.put, List.getElem_toArray, List.getElem_cons_zero, List.getElem_cons_succ, List.setIfInBounds_toArray, List.set_cons_zero, List.set_cons_succ]
      refine wpAnyH_take (i := 3) (v := ?_) rfl (by kernel_rfl) (by kernel_rfl) (by kernel_rfl) (fun _ _ _ h => h) (Or.inl ⟨by rfl, (by intro w hSw; go_simp; try with_reducible rfl)⟩) (by assumption) ?_
      simp only [Act.put, List.getElem_toArray, List.getElem_cons_zero, List.getElem_cons_succ, List.setIfInBounds_toArray, List.set_cons_zero, List.set_cons_succ]
      refine wpAnyH_take (i := 4) (v := ?_) rfl (by kernel_rfl) (by kernel_rfl) (by kernel_rfl) (fun _ _ _ h => h) (Or.inl ⟨by rfl, (by intro w hSw; go_simp; try with_reducible rfl)⟩) (by assumption) ?_
      simp only [Act.put, List.getElem_toArray, List.getElem_cons_zero, List.getElem_cons_succ, List.setIfInBounds_toArray, List.set_cons_zero, List.set_cons_succ]
      refine wpAnyH_take (i := 5) (v := ?_) rfl (by kernel_rfl) (by kernel_rfl) (by kernel_rfl) (fun _ _ _ h => h) (Or.inl ⟨by rfl, (by intro w hSw; have e0 := (hSw.cell (p := ⟨lb, lo + k * 5, none⟩) hlb).trans g0; have e1 := (hSw.cell (p := ⟨lb, lo + k * 5 + 1, none⟩) hlb).trans g1; have e2 := (hSw.cell (p := ⟨lb, lo + k * 5 + 2, none⟩) hlb).trans g2; have e3 := (hSw.cell (p := ⟨lb, lo + k * 5 + 3, none⟩) hlb).trans g3; have e4 := (hSw.cell (p := ⟨lb, lo + k * 5 + 4, none⟩) hlb).trans g4; go_simp; try with_reducible rfl)⟩) (by assumption) ?_
      simp only [Act.put, List.getElem_toArray, List.getElem_cons_zero, List.getElem_cons_succ, List.setIfInBounds_toArray, List.set_cons_zero, List.set_cons_succ]
      refine wpAnyH_ready (rs := [6]) (by kernel_rfl) (by simp) ?_
      refine AllReadyH.cons rfl (fun K hK => ?_) AllReadyH.nil
      go_simp
      go_at_call 10
      refine (C6.out _ hsy0.out).mono ?_
      rintro e w3 ⟨rfl, hy3⟩
      have hHeld : Sync At w (.pointer (some p)) b d2 w3 := hy3
      clear hy3
      refine hK.out _ _ hHeld.bel (fun _ => ?_)
      refine wpAnyH_more (S' := fun w' => Sync At w (.pointer (some p)) b d2 w') (fun w' h => h.bel) ?_
      clear hK K
      refine wpAnyH_take (i := 7) (v := ?_) rfl (by kernel_rfl) (by kernel_rfl) (by kernel_rfl) (fun _ _ _ h => h) (Or.inl ⟨by rfl, (by intro w hSw; go_simp; try with_reducible rfl)⟩) (by assumption) ?_
      simp only [Act.put, List.getElem_toArray, List.getElem_cons_zero, List.getElem_cons_succ, List.setIfInBounds_toArray, List.set_cons_zero, List.set_cons_succ]
      refine wpAnyH_take (i := 8) (v := ?_) rfl (by kernel_rfl) (by kernel_rfl) (by kernel_rfl) (fun _ _ _ h => h) (Or.inl ⟨by rfl, (by intro w hSw; go_simp; try with_reducible rfl)⟩) (by assumption) ?_
      simp only [Act.put, List.getElem_toArray, List.getElem_cons_zero, List.getElem_cons_succ, List.setIfInBounds_toArray, List.set_cons_zero, List.set_cons_succ]
      refine wpAnyH_take (i := 9) (v := ?_) rfl (by kernel_rfl) (by kernel_rfl) (by kernel_rfl) (fun _ _ _ h => h) (Or.inl ⟨by rfl, (by intro w hSw; go_simp; try with_reducible rfl)⟩) (by assumption) ?_
      simp only [Act.put, List.getElem_toArray, List.getElem_cons_zero, List.getElem_cons_succ, List.setIfInBounds_toArray, List.set_cons_zero, List.set_cons_succ]
      refine wpAnyH_take (i := 11) (v := ?_) rfl (by kernel_rfl) (by kernel_rfl) (by kernel_rfl) (fun _ _ _ h => h) (Or.inl ⟨by rfl, (by intro w hSw; go_simp; try with_reducible rfl)⟩) (by assumption) ?_
      simp only [Act.put, List.getElem_toArray, List.getElem_cons_zero, List.getElem_cons_succ, List.setIfInBounds_toArray, List.set_cons_zero, List.set_cons_succ]
      refine wpAnyH_take (i := 12) (v := ?_) rfl (by kernel_rfl) (by kernel_rfl) (by kernel_rfl) (fun _ _ _ h => h) (Or.inl ⟨by rfl, (by intro w hSw; go_simp; try with_reducible rfl)⟩) (by assumption) ?_
      simp only [Act.put, List.getElem_toArray, List.getElem_cons_zero, List.getElem_cons_succ, List.setIfInBounds_toArray, List.set_cons_zero, List.set_cons_succ]
      refine wpAnyH_take (i := 13) (v := ?_) rfl (by kernel_rfl) (by kernel_rfl) (by kernel_rfl) (fun _ _ _ h => h) (Or.inl ⟨by rfl, (by intro w hSw; go_simp; try with_reducible rfl)⟩) (by assumption) ?_
      simp only [Act.put, List.getElem_toArray, List.getElem_cons_zero, List.getElem_cons_succ, List.setIfInBounds_toArray, List.set_cons_zero, List.set_cons_succ]
      refine wpAnyH_take (i := 14) (v := ?_) rfl (by kernel_rfl) (by kernel_rfl) (by kernel_rfl) (fun _ _ _ h => h) (Or.inl ⟨by rfl, (by intro w hSw; obtain ⟨A, c, -, -, -, hc3, -⟩ := hSw.half.refFacts; go_simp; try with_reducible rfl)⟩) (by assumption) ?_
      simp only [Act.put, List.getElem_toArray, List.getElem_cons_zero, List.getElem_cons_succ, List.setIfInBounds_toArray, List.set_cons_zero, List.set_cons_succ]
      refine wpAnyH_ready (rs := [10]) (by kernel_rfl) (by simp) ?_
      refine AllReadyH.cons rfl (fun K hK => ?_) AllReadyH.nil
      go_simp
      go_at_call 11
      refine (C10.out _ hHeld).mono ?_
      rintro e w4 ⟨rfl, hy4⟩
      refine hK.out _ _ hy4 (fun hHeld => ?_)
      clear hy4
      clear hK K
      refine wpAnyH_take (i := 15) (v := ?_) rfl (by kernel_rfl) (by kernel_rfl) (by kernel_rfl) (fun _ _ _ h => h) (Or.inl ⟨by rfl, (by intro w hSw; go_simp; try with_reducible rfl)⟩) (by assumption) ?_
      simp only [Act.put, List.getElem_toArray, List.getElem_cons_zero, List.getElem_cons_succ, List.setIfInBounds_toArray, List.set_cons_zero, List.set_cons_succ]
      refine wpAnyH_take (i := 16) (v := ?_) rfl (by kernel_rfl) (by kernel_rfl) (by kernel_rfl) (fun _ _ _ h => h) (Or.inl ⟨by rfl, (by intro w hSw; go_simp; try with_reducible rfl)⟩) (by assumption) ?_
      simp only [Act.put, List.getElem_toArray, List.getElem_cons_zero, List.getElem_cons_succ, List.setIfInBounds_toArray, List.set_cons_zero, List.set_cons_succ]
      refine wpAnyH_take (i := 17) (v := ?_) rfl (by kernel_rfl) (by kernel_rfl) (by kernel_rfl) (fun _ _ _ h => h) (Or.inl ⟨by rfl, (by intro w hSw; go_simp; try with_reducible rfl)⟩) (by assumption) ?_
      simp only [Act.put, List.getElem_toArray, List.getElem_cons_zero, List.getElem_cons_succ, List.setIfInBounds_toArray, List.set_cons_zero, List.set_cons_succ]
      refine wpAnyH_take (i := 18) (v := ?_) rfl (by kernel_rfl) (by kernel_rfl) (by kernel_rfl) (fun _ _ _ h => h) (Or.inl ⟨by rfl, (by intro w hSw; go_simp; try with_reducible rfl)⟩) (by assumption) ?_
      simp only [Act.put, List.getElem_toArray, List.getElem_cons_zero, List.getElem_cons_succ, List.setIfInBounds_toArray, List.set_cons_zero, List.set_cons_succ]
      refine wpAnyH_take (i := 20) (v := ?_) rfl (by kernel_rfl) (by kernel_rfl) (by kernel_rfl) (fun _ _ _ h => h) (Or.inl ⟨by rfl, (by intro w hSw; go_simp; try with_reducible rfl)⟩) (by assumption) ?_
      simp only [Act.put, List.getElem_toArray, List.getElem_cons_zero, List.getElem_cons_succ, List.setIfInBounds_toArray, List.set_cons_zero, List.set_cons_succ]
      refine wpAnyH_take (i := 21) (v := ?_) rfl (by kernel_rfl) (by kernel_rfl) (by kernel_rfl) (fun _ _ _ h => h) (Or.inl ⟨by rfl, (by intro w hSw; go_simp; try with_reducible rfl)⟩) (by assumption) ?_
      simp only [Act.put, List.getElem_toArray, List.getElem_cons_zero, List.getElem_cons_succ, List.setIfInBounds_toArray, List.set_cons_zero, List.set_cons_succ]
      refine wpAnyH_take (i := 22) (v := ?_) rfl (by kernel_rfl) (by kernel_rfl) (by kernel_rfl) (fun _ _ _ h => h) (Or.inl ⟨by rfl, (by intro w hSw; go_simp; try with_reducible rfl)⟩) (by assumption) ?_
      simp only [Act.put, List.getElem_toArray, List.getElem_cons_zero, List.getElem_cons_succ, List.setIfInBounds_toArray, List.set_cons_zero, List.set_cons_succ]
      refine wpAnyH_take (i := 23) (v := ?_) rfl (by kernel_rfl) (by kernel_rfl) (by kernel_rfl) (fun _ _ _ h => h) (Or.inl ⟨by rfl, (by intro w hSw; obtain ⟨A, c, -, hc1, -⟩ := hSw.half.refFacts; go_simp; try with_reducible rfl)⟩) (by assumption) ?_
      simp only [Act.put, List.getElem_toArray, List.getElem_cons_zero, List.getElem_cons_succ, List.setIfInBounds_toArray, List.set_cons_zero, List.set_cons_succ]
      refine wpAnyH_ready (rs := [19]) (by kernel_rfl) (by simp) ?_
      refine AllReadyH.cons rfl (fun K hK => ?_) AllReadyH.nil
      go_simp
      go_at_call 12
      refine (C19.out _ hHeld).mono ?_
      rintro e w5 ⟨rfl, hy5⟩
      refine hK.out _ _ hy5 (fun hHeld => ?_)
      clear hy5
      clear hK K
      refine wpAnyH_take (i := 24) (v := ?_) rfl (by kernel_rfl) (by kernel_rfl) (by kernel_rfl) (fun _ _ _ h => h) (Or.inl ⟨by rfl, (by intro w hSw; go_simp; try with_reducible rfl)⟩) (by assumption) ?_
      simp only [Act.put, List.getElem_toArray, List.getElem_cons_zero, List.getElem_cons_succ, List.setIfInBounds_toArray, List.set_cons_zero, List.set_cons_succ]
      refine wpAnyH_take (i := 25) (v := ?_) rfl (by kernel_rfl) (by kernel_rfl) (by kernel_rfl) (fun _ _ _ h => h) (Or.inl ⟨by rfl, (by intro w hSw; go_simp; try with_reducible rfl)⟩) (by assumption) ?_
      simp only [Act.put, List.getElem_toArray, List.getElem_cons_zero, List.getElem_cons_succ, List.setIfInBounds_toArray, List.set_cons_zero, List.set_cons_succ]
      refine wpAnyH_take (i := 26) (v := ?_) rfl (by kernel_rfl) (by kernel_rfl) (by kernel_rfl) (fun _ _ _ h => h) (Or.inl ⟨by rfl, (by intro w hSw; go_simp; try with_reducible rfl)⟩) (by assumption) ?_
      simp only [Act.put, List.getElem_toArray, List.getElem_cons_zero, List.getElem_cons_succ, List.setIfInBounds_toArray, List.set_cons_zero, List.set_cons_succ]
      refine wpAnyH_take (i := 27) (v := ?_) rfl (by kernel_rfl) (by kernel_rfl) (by kernel_rfl) (fun _ _ _ h => h) (Or.inl ⟨by rfl, (by intro w hSw; go_simp; try with_reducible rfl)⟩) (by assumption) ?_
      simp only [Act.put, List.getElem_toArray, List.getElem_cons_zero, List.getElem_cons_succ, List.setIfInBounds_toArray, List.set_cons_zero, List.set_cons_succ]
      refine wpAnyH_take (i := 29) (v := ?_) rfl (by kernel_rfl) (by kernel_rfl) (by kernel_rfl) (fun _ _ _ h => h) (Or.inl ⟨by rfl, (by intro w hSw; go_simp; try with_reducible rfl)⟩) (by assumption) ?_
      simp only [Act.put, List.getElem_toArray, List.getElem_cons_zero, List.getElem_cons_succ, List.setIfInBounds_toArray, List.set_cons_zero, List.set_cons_succ]
      refine wpAnyH_ready (rs := [28]) (by kernel_rfl) (by simp) ?_
      refine AllReadyH.cons rfl (fun K hK => ?_) AllReadyH.nil
      go_simp
      go_at_call 14
      refine (C28.out _ hHeld).mono ?_
      rintro e w6 ⟨u6, rfl, hu6, hy6⟩
      have hu6 := Lib.hid hu6
      refine hK.out _ _ hy6 (fun hHeld => ?_)
      clear hy6
      clear hK K
      refine wpAnyH_ready (rs := [30]) (by kernel_rfl) (by simp) ?_
      refine AllReadyH.cons rfl (fun K hK => ?_) AllReadyH.nil
      go_simp
      go_at_call 15
      refine (C30.out _ hHeld).mono ?_
      rintro e w7 ⟨u7, rfl, hu7, hb7, hy7⟩
      have hu7 := Lib.hid hu7
      have hb7 := Lib.hid hb7
      refine hK.out _ _ hy7 (fun hHeld => ?_)
      clear hy7
      clear hK K
      refine wpAnyH_ready (rs := [31]) (by kernel_rfl) (by simp) ?_
      refine AllReadyH.cons rfl (fun K hK => ?_) AllReadyH.nil
      go_simp
      go_at_call 13
      refine (C31.out _ _ _ trivial (hu6.out.kept (Kept.ofBelow hb7.out (fun _ => False)) (fun _ _ h => h)) hu7.out hHeld).mono ?_
      rintro e w8 ⟨rfl, hy8⟩
      refine hK.out _ _ hy8 (fun hHeld => ?_)
      have hy8 := Lib.hid hy8
      clear hK K
      refine wpAnyH_take (i := 32) (v := ?_) rfl (by kernel_rfl) (by kernel_rfl) (by kernel_rfl) (fun _ _ _ h => h) (Or.inl ⟨by rfl, (by intro w hSw; go_simp; try with_reducible rfl)⟩) (by assumption) ?_
      simp only [Act.put, List.getElem_toArray, List.getElem_cons_zero, List.getElem_cons_succ, List.setIfInBounds_toArray, List.set_cons_zero, List.set_cons_succ]
      refine wpAnyH_take (i := 33) (v := ?_) rfl (by kernel_rfl) (by kernel_rfl) (by kernel_rfl) (fun _ _ _ h => h) (Or.inl ⟨by rfl, (by intro w hSw; go_simp; try with_reducible rfl)⟩) (by assumption) ?_
      simp only [Act.put, List.getElem_toArray, List.getElem_cons_zero, List.getElem_cons_succ, List.setIfInBounds_toArray, List.set_cons_zero, List.set_cons_succ]
      refine wpAnyH_done (by kernel_rfl) ?_ _
      go_wp2_with fail
      obtain ⟨q1, q2⟩ := Q.out
      refine ⟨⟨k + 1, by omega, by omega, rfl, by rw [hd3.out]; exact hy8.out⟩, ?_⟩
      show 80 - ((k : Int) + 1).toNat < 80 - (k : Int).toNat
      omega
    · obtain ⟨d1, hd1⟩ : ∃ d1, d1 = after (Dsk.new n) l k := ⟨_, rfl⟩
      have f1 : d1.Fine 80 := by rw [hd1]; exact hfine.out k (by omega)
      have n1 : d1.S.length = n := by rw [hd1]; exact hlen2.out k
      rw [← hd1] at hsy
      have C1 := Lib.hid (sync_crash HH.out hsy f1 (by decide))
      have C2 : Hid (∀ W', Half At w w (fun _ => False) (fun _ => False) (.pointer (some p)) b (d1.crash []) d1 W' → _) := Lib.hid (fun W' h => sync_refcrash HH.out h f1 (by decide))
      obtain ⟨d2, hd2⟩ : ∃ d2, d2 = d1.crash [] := ⟨_, rfl⟩
      have f2 : d2.Fine 80 := by rw [hd2]; exact f1.crash []
      have n2 : d2.S.length = n := by rw [hd2, crash_len]; exact n1
      have dn : d2.down = false := by rw [hd2]; rfl
      rw [← hd2] at C1 C2
      have C3 : Hid (∀ W' j, j < n → Sync At w (.pointer (some p)) b d2 W' → Calls Try.prog 18 #[.pointer (some p), .int .i64 ((j : Nat) : Int)] W' fun e w' => e = .returned (.tuple #[.string (last (d2.at j)), .int .i64 0]) ∧ Sync At w (.pointer (some p)) b d2 w') := Lib.hid (fun W' j hj h => sync_read HH.out h f2 (by decide) dn (by omega))
      have C4 : Hid (∀ W' j, j < n → Sync At w (.pointer (some p)) b d2 W' → Calls Try.prog 19 #[.pointer (some ⟨b, 0, none⟩), .int .i64 ((j : Nat) : Int)] W' fun e w' => e = .returned (.string (last (d2.at j))) ∧ Sync At w (.pointer (some p)) b d2 w') := Lib.hid (fun W' j hj h => sync_refread HH.out h f2 (by decide) (by omega))
      have hcond : (decide (k < ln) = false) ∨ (decide (k < ln) = true ∧ decide ((k : Int) < 80) = false) := by
        by_cases q : k < ln
        · right
          exact ⟨by simpa using q, by simp; omega⟩
        · left
          simpa using q
      clear hd1 hd2 f1 f2 n1 n2 dn hsy hlt
      rcases hcond with hb1 | ⟨hb1, hb2⟩
      all_goals
        go_wp2_with fail
        refine C1.out.mono ?_
        rintro e w5 ⟨rfl, hh5⟩
        have hh5 := Lib.hid hh5
        go_wp2_with fail
        refine (C2.out w5 hh5.out).mono ?_
        rintro e w6 ⟨rfl, h0⟩
        go_wp2_with fail
        go_loopw [9] (fun i wr => ∃ j : Nat, j ≤ n ∧ i = .int .i64 (j : Int) ∧ Sync At w (.pointer (some p)) b d2 wr) (fun i _ => n - (intOf i).toNat)
        case atStart => exact ⟨0, Nat.zero_le _, rfl, h0⟩
        case round =>
          obtain ⟨j, hj, rfl, hsy⟩ := hrel
          clear h0
          by_cases hjn : j < n
          · have hsy := Lib.hid hsy
            obtain ⟨z, hz⟩ : ∃ z, z = last (d2.at j) := ⟨_, rfl⟩
            have c3 := C3.out wr j hjn hsy.out
            have c4 := fun W' => C4.out W' j hjn
            rw [← hz] at c3 c4
            have c3 := Lib.hid c3
            have c4 := Lib.hid c4
            have hzz : (z.toList != z.toList) = false := by simp
            clear hz
            go_wp2_with fail
            refine c3.out.mono ?_
            rintro e w7 ⟨rfl, h7⟩
            have h7 := Lib.hid h7
            go_wp2_with fail
            refine (c4.out w7 h7.out).mono ?_
            rintro e w8 ⟨rfl, h8⟩
            have h8 := Lib.hid h8
            go_wp2_with fail
            refine ⟨⟨j + 1, by omega, rfl, h8.out⟩, ?_⟩
            show n - ((j : Int) + 1).toNat < n - (j : Int).toNat
            omega
          · obtain rfl : j = n := by omega
            have hsy := Lib.hid hsy
            go_wp2_with fail
            go_ret
            exact ⟨rfl, hsy.out.bel⟩
end
end Go.Proofs.Ytdagdmfockibfaa
