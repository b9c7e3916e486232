/- What is kept behind a crash: JournalKeeps's statement holds. -/
import Derived.Test.YtcgplonnhginiaaCom34
import Derived.Test.YtcgplonnhginiaaCom10
import Derived.Test.YtcgplonnhginiaaCom33
import Derived.OwnWalk
import Derived.Deep.RegionHeld3
/- JournalKeeps's states: a disk, a journal on it, texts that stay; what each call leaves. -/
set_option linter.unusedSimpArgs false
set_option linter.unusedVariables false
namespace Go.Proofs.Ytcgplonnhginiaa
open Go.RowKit Dsk Jnl

set_option maxRecDepth 100000 in
/-- A call of the journal's: all is there, it was full, or the disk went down. -/
theorem call_out (rw : Bool) {n : Nat} {d : D} {j : J} {l a : List (List UInt8)} (H : Live n d j l) (hn : 4 ≤ n) (hn2 : n ≤ 4096) (hseq : j.seq < 9223372036854775807) (ha : (Frm.all a).length ≤ 65536) (hs : ∀ t ∈ a, t.length < 9223372036854775808) :
    ∃ (g : Int) (d' : D) (j' : J), (if rw = true then rewrite n d j a else append n d j a) = (g, d', j') ∧
      ((g = 0 ∧ Live n d' j' (if rw = true then a else l ++ a) ∧ j'.seq ≤ j.seq + 1) ∨ (g = 10 ∧ d' = d ∧ j' = j) ∨ (g = 12 ∧ j'.broken = true ∧ ∃ j2, j2.seq = j.seq + 1 ∧ Fallen n d' j l j2 (if rw = true then a else l ++ a))) := by
  cases rw
  · refine ⟨_, _, _, rfl, ?_⟩
    rcases append_keeps H hn hn2 hseq ha hs with ⟨h1, h2, h3⟩ | h | ⟨h1, h2, h3⟩
    · exact Or.inl ⟨h1, h2, h3⟩
    · refine Or.inr (Or.inl ?_)
      show (append n d j a).1 = 10 ∧ (append n d j a).2.1 = d ∧ (append n d j a).2.2 = j
      rw [h]; exact ⟨rfl, rfl, rfl⟩
    · exact Or.inr (Or.inr ⟨h1, h2, _, rfl, h3⟩)
  · refine ⟨_, _, _, rfl, ?_⟩
    rcases rewrite_keeps H hn hn2 hseq ha hs with ⟨h1, h2, h3⟩ | h | ⟨h1, h2, h3⟩
    · exact Or.inl ⟨h1, h2, h3⟩
    · refine Or.inr (Or.inl ?_)
      show (rewrite n d j a).1 = 10 ∧ (rewrite n d j a).2.1 = d ∧ (rewrite n d j a).2.2 = j
      rw [h]; exact ⟨rfl, rfl, rfl⟩
    · exact Or.inr (Or.inr ⟨h1, h2, _, rfl, h3⟩)

set_option maxRecDepth 100000 in
theorem hof_63 {n : Nat} (h : n ≤ 63) : hof n ≤ 30 := by unfold hof; omega

set_option maxRecDepth 100000 in
theorem call_fine {rw : Bool} {n N : Nat} {d d' : D} {j j' : J} {a : List (List UInt8)} {g : Int} (hr : (if rw = true then rewrite n d j a else append n d j a) = (g, d', j')) (hf : d.Fine N) : d'.Fine (N + hof n + 3) := by
  cases rw
  · have hr : append n d j a = (g, d', j') := hr
    have := append_fine (n := n) (j := j) (a := a) hf
    rw [hr] at this
    exact this
  · have hr : rewrite n d j a = (g, d', j') := hr
    have := rewrite_fine (n := n) (j := j) (a := a) hf
    rw [hr] at this
    exact this

set_option maxRecDepth 100000 in
theorem fallen_sound {n N : Nat} {d : D} {j j' : J} {l l' : List (List UInt8)} (h : Fallen n d j l j' l') (hf : d.Fine N) (hn : 4 ≤ n) : Sound n d N := ⟨h.shape, hf, hn, fun k hk => (may_now h.shape h.may).elim (fun q => q.full k hk) (fun q => q.full k hk)⟩

set_option maxRecDepth 100000 in
/-- What a crash leaves of a fall. -/
theorem fallen_crash {n : Nat} {d : D} {j j' : J} {l l' : List (List UInt8)} (h : Fallen n d j l j' l') (hn : 4 ≤ n) (ks : List Int) (hq : j'.seq = j.seq + 1) : ∃ cur j4, Live n (d.crash ks) j4 cur ∧ (cur = l ∨ cur = l') ∧ j4.seq ≤ j.seq + 1 := by
  rcases h.crash hn ks with ⟨h1, -⟩ | ⟨h1, -⟩
  · exact ⟨l, j, h1, Or.inl rfl, by omega⟩
  · exact ⟨l', j', h1, Or.inr rfl, by omega⟩

section
variable {At : World → (Nat → Prop) → Value → D → Prop} {Own : World → (Nat → Prop) → Value → Value → Nat → J → Prop} {W w w' : World} {Z : Nat → Prop} {dv jv lv : Value} {n N : Nat} {d d' : D} {j j' : J} {l a : List (List UInt8)} {L : List (Value × List (List UInt8))} {B : Nat} {arr : Array Value}

/-- What stays: slices of texts, and one block. -/
structure Sty (W : World) (Z : Nat → Prop) (L : List (Value × List (List UInt8))) (B : Nat) (arr : Array Value) (w : World) : Prop where
  each : ∀ x ∈ L, Cells w Z x.1 (texts x.2)
  old : ∀ i, i < W.heap.size → Z i
  row : Row w B 35 arr
  zb : Z B

set_option maxRecDepth 100000 in
theorem Sty.same (h : Sty W Z L B arr w) (s : SameZ Z w w') : Sty W Z L B arr w' := ⟨fun x hx => s.cells (h.each x hx) (fun _ h => h), h.old, (s.2 B h.zb).trans h.row, h.zb⟩

set_option maxRecDepth 100000 in
theorem Sty.mono {Y : Nat → Prop} (h : Sty W Z L B arr w) (hY : ∀ i, Z i → Y i) : Sty W Y L B arr w := ⟨fun x hx => (h.each x hx).mono hY, fun i hi => hY i (h.old i hi), h.row, hY B h.zb⟩

set_option maxRecDepth 100000 in
theorem Sty.cons {v : Value} (h : Sty W Z L B arr w) (hc : Cells w Z v (texts l)) : Sty W Z ((v, l) :: L) B arr w := ⟨fun x hx => by
  rcases List.mem_cons.1 hx with rfl | hx
  · exact hc
  · exact h.each x hx, h.old, h.row, h.zb⟩

structure St (At : World → (Nat → Prop) → Value → D → Prop) (Own : World → (Nat → Prop) → Value → Value → Nat → J → Prop) (W : World) (Z : Nat → Prop) (dv jv : Value) (n : Nat) (d : D) (j : J) (L : List (Value × List (List UInt8))) (B : Nat) (arr : Array Value) (w : World) : Prop where
  jw : Jw At Own W Z dv jv n d j w
  sty : Sty W Z L B arr w

set_option maxRecDepth 100000 in
theorem St.cell (h : St At Own W Z dv jv n d j L B arr w) (k : Nat) : w.cell? ⟨B, k, none⟩ = arr[k]? := h.sty.row.at k

set_option maxRecDepth 100000 in
theorem St.below (U : DiskUse At) (H : JournalOk At Own) (h : St At Own W Z dv jv n d j L B arr w) (b : Below w.heap.size w w') : St At Own W Z dv jv n d j L B arr w' := by
  obtain ⟨k1, k2⟩ := h.jw.below U H b
  exact ⟨k1, h.sty.same k2⟩

set_option maxRecDepth 100000 in
/-- New texts join. -/
theorem St.more (U : DiskUse At) (H : JournalOk At Own) {v : Value} (h : St At Own W Z dv jv n d j L B arr w) (b : Below w.heap.size w w') (hc : Cells w' (NewIn w w') v (texts l)) :
    St At Own W (fun i => Z i ∨ NewIn w w' i) dv jv n d j ((v, l) :: L) B arr w' :=
  ⟨h.jw.more U H b (fun i hi => hi.elim Or.inl Or.inr), ((h.sty.same (h.jw.below U H b).2).mono (fun _ h => Or.inl h)).cons (hc.mono (fun _ h => Or.inr h))⟩

set_option maxRecDepth 100000 in
theorem St.known {v : Value} (h : St At Own W Z dv jv n d j L B arr w) (hc : Cells W (fun i => i < W.heap.size) v (texts l)) : St At Own W Z dv jv n d j ((v, l) :: L) B arr w :=
  ⟨h.jw, h.sty.cons ((hc.below h.jw.bel).mono h.sty.old)⟩

set_option maxRecDepth 100000 in
theorem St.fewer {L' : List (Value × List (List UInt8))} (h : St At Own W Z dv jv n d j L B arr w) (hL : ∀ x ∈ L', x ∈ L) : St At Own W Z dv jv n d j L' B arr w := ⟨h.jw, fun x hx => h.sty.each x (hL x hx), h.sty.old, h.sty.row, h.sty.zb⟩

set_option maxRecDepth 100000 in
theorem St.arm (U : DiskUse At) (H : JournalOk At Own) (h : St At Own W Z dv jv n d j L B arr w) (hf : d.Fine N) (hN : N ≤ 100000) (x : Int) (h1 : -9223372036854775808 ≤ x) (h2 : x ≤ 9223372036854775807) :
    Calls Try.prog 12 #[dv, .int .i64 x] w fun e w' => e = .returned (.tuple #[]) ∧ St At Own W Z dv jv n (d.arm x) j L B arr w' := by
  refine (h.jw.call (fun F hF hz => hF.disk H (fun F1 k1 => U.arm k1 hf hN x h1 h2))).mono ?_
  rintro e w' ⟨rfl, k1, k2⟩
  exact ⟨rfl, k1, h.sty.same k2⟩

set_option maxRecDepth 100000 in
theorem St.call (U : DiskUse At) (H : JournalOk At Own) (rw : Bool) {g : Int} (h : St At Own W Z dv jv n d j L B arr w) (hs : Sound n d N) (hh : Held n d j) (hN : N + Jnl.hof n + 3 ≤ 100000) (hc : Cells W (fun i => i < W.heap.size) lv (texts a)) (hsl : SlightAll a)
    (hr : (if rw = true then Jnl.rewrite n d j a else Jnl.append n d j a) = (g, d', j')) :
    Calls Try.prog (if rw = true then 13 else 14) #[jv, lv] w fun e w' => e = .returned (.int .i64 g) ∧ St At Own W Z dv jv n d' j' L B arr w' := by
  have hcells := hc.below h.jw.bel
  cases rw
  · have hr : Jnl.append n d j a = (g, d', j') := hr
    have hcl := h.jw.call (fun F hF hz => H.append hF hs (by omega) (Or.inr ⟨hh, hN⟩) hcells (fun k hk hf => hz k hf (h.sty.old k hk)) (by have := hsl.few; omega) (fun t ht => by have := hsl.each t ht; omega))
    rw [hr] at hcl
    refine hcl.mono ?_
    rintro e w' ⟨rfl, k1, k2⟩
    exact ⟨rfl, k1, h.sty.same k2⟩
  · have hr : Jnl.rewrite n d j a = (g, d', j') := hr
    have hcl := h.jw.call (fun F hF hz => H.rewrite hF hs (by omega) (Or.inr ⟨hh, hN⟩) hcells (fun k hk hf => hz k hf (h.sty.old k hk)) (by have := hsl.few; omega) (fun t ht => by have := hsl.each t ht; omega))
    rw [hr] at hcl
    refine hcl.mono ?_
    rintro e w' ⟨rfl, k1, k2⟩
    exact ⟨rfl, k1, h.sty.same k2⟩

set_option maxRecDepth 100000 in
theorem St.broken (H : JournalOk At Own) (h : St At Own W Z dv jv n d j L B arr w) : Calls Try.prog 15 #[jv] w fun e w' => e = .returned (.bool j.broken) ∧ St At Own W Z dv jv n d j L B arr w' := by
  refine (h.jw.call (fun F hF hz => H.broken hF)).mono ?_
  rintro e w' ⟨rfl, k1, k2⟩
  exact ⟨rfl, k1, h.sty.same k2⟩

set_option maxRecDepth 100000 in
theorem x_one (w : World) : Cells (w.alloc (.cells #[.string ⟨#[120]⟩] 9)) (NewIn w (w.alloc (.cells #[.string ⟨#[120]⟩] 9))) (.slice (some ⟨w.heap.size, 0, none⟩) 1 1) (texts [[120]]) :=
  ⟨some ⟨w.heap.size, 0, none⟩, 1, rfl, Nat.le_refl _, fun _ => ⟨w.heap.size, 0, rfl, ⟨Nat.le_refl _, by simp⟩, by simp, fun i u hu => by
    rw [Nat.zero_add, (Row.made w 9 #[.string ⟨#[120]⟩]).at]
    rw [show (#[.string ⟨#[120]⟩] : Array Value) = (texts [[120]]).toArray from rfl, List.getElem?_toArray]
    exact hu⟩⟩

set_option maxRecDepth 100000 in
/-- A journal that is broken keeps nothing more. -/
theorem St.refuses (U : DiskUse At) (H : JournalOk At Own) (h : St At Own W Z dv jv n d j L B arr w) (hs : Sound n d N) (hN : N ≤ 100000) (hb : j.broken = true) :
    Calls Try.prog 14 #[jv, .slice (some ⟨w.heap.size, 0, none⟩) 1 1] (w.alloc (.cells #[.string ⟨#[120]⟩] 9)) fun e w' => e = .returned (.int .i64 16) ∧ St At Own W Z dv jv n d j L B arr w' := by
  have hb1 : Below w.heap.size w (w.alloc (.cells #[.string ⟨#[120]⟩] 9)) := (Below.refl _ _).alloc (Nat.le_refl _) _
  have h2 := h.more U H hb1 (x_one w)
  have hx := h2.sty.each _ (List.mem_cons_self)
  have hr : Jnl.append n d j [[120]] = (16, d, j) := by unfold Jnl.append; rw [if_pos hb]
  have hcl := h2.jw.call (fun F hF hz => H.append hF hs (by omega) (Or.inl hb) (a := [[120]]) hx (fun k hk hf => hz k hf hk) (by decide) (fun t ht => by rw [List.mem_singleton.1 ht]; decide))
  rw [hr] at hcl
  refine hcl.mono ?_
  rintro e w' ⟨rfl, k1, k2⟩
  have h3 := (h2.sty.same k2)
  refine ⟨rfl, ?_, ?_⟩
  · exact k1.more U H (Below.refl _ _) (fun i hi => Or.inl (Or.inl hi))
  · have hs1 := h.sty.same (SameZ.trans (SameZ.below hb1 h.jw.zlt) ⟨k2.1, fun k hk => k2.2 k (Or.inl hk)⟩)
    exact hs1

/-- The same, of a disk alone. -/
structure Sd (At : World → (Nat → Prop) → Value → D → Prop) (W : World) (Z : Nat → Prop) (dv : Value) (d : D) (L : List (Value × List (List UInt8))) (B : Nat) (arr : Array Value) (w : World) : Prop where
  dw : Dw At W Z dv d w
  sty : Sty W Z L B arr w

set_option maxRecDepth 100000 in
theorem St.crash (U : DiskUse At) (h : St At Own W Z dv jv n d j L B arr w) (hf : d.Fine N) (hN : N ≤ 100000) {kv : Value} {ks : List Int} (hk : Cells W (fun i => i < W.heap.size) kv (ks.map (Value.int .i64))) (h1 : ∀ x ∈ ks, -9223372036854775808 ≤ x ∧ x ≤ 9223372036854775807) (h2 : ks.length ≤ 9223372036854775807) :
    Calls Try.prog 16 #[dv, kv] w fun e w' => e = .returned (.tuple #[]) ∧ Sd At W Z dv (d.crash ks) L B arr w' := by
  obtain ⟨⟨F, k1, k4⟩, k6, k7⟩ := h.jw.disk
  refine (U.crash k1 hf hN (hk.below k6) (fun i hi hfi => (k4 i hfi).2 (h.sty.old i hi)) h1 h2).mono ?_
  rintro e w' ⟨rfl, q1, q2⟩
  have hsz : SameZ Z w w' := ⟨q2.size, fun k hk => q2.block k (k7 k hk) (fun hf => (k4 k hf).2 hk)⟩
  refine ⟨rfl, ⟨⟨Grow F w w', q1, fun i hi => ?_⟩, below_kept k6 q2 (fun i hi => (k4 i hi).1), fun i hi => Nat.lt_of_lt_of_le (k7 i hi) q2.size⟩, h.sty.same hsz⟩
  rcases hi with hi | hi
  · exact k4 i hi
  · exact ⟨Nat.le_trans k6.size hi.1, fun hz => by have := k7 i hz; omega⟩

set_option maxRecDepth 100000 in
theorem Sd.opened (U : DiskUse At) (H : JournalOk At Own) (h : Sd At W Z dv d L B arr w) (hl : Live n d j l) (hf : d.Fine N) (hN : N ≤ 100000) (hn : 4 ≤ n) :
    Calls Try.prog 10 #[dv] w fun e w' => ∃ p lv Z', e = .returned (.tuple #[.pointer (some p), lv, .int .i64 0]) ∧ St At Own W Z' dv (.pointer (some p)) n d j ((lv, l) :: L) B arr w' := by
  refine (h.dw.opened U H hl hf hN hn).mono ?_
  rintro e w' ⟨p, lv, G, rfl, k1, k2, k3, k4⟩
  exact ⟨p, lv, _, rfl, k1, ((h.sty.same k4).mono (fun _ h => Or.inl h)).cons (k2.mono (fun _ h => Or.inr h))⟩

set_option maxRecDepth 100000 in
theorem St.again (U : DiskUse At) (H : JournalOk At Own) (h : St At Own W Z dv jv n d j L B arr w) (hl : Live n d j l) (hf : d.Fine N) (hN : N ≤ 100000) (hn : 4 ≤ n) :
    Calls Try.prog 10 #[dv] w fun e w' => ∃ p lv Z', e = .returned (.tuple #[.pointer (some p), lv, .int .i64 0]) ∧ St At Own W Z' dv jv n d j ((lv, l) :: L) B arr w' := by
  refine (h.jw.again U H hl hf hN hn).mono ?_
  rintro e w' ⟨p, lv, G, rfl, k1, k2, k3, k4⟩
  exact ⟨p, lv, _, rfl, k1, ((h.sty.same k4).mono (fun _ h => Or.inl h)).cons (k2.mono (fun _ h => Or.inr h))⟩

set_option maxRecDepth 100000 in
/-- Two of the texts that stay: are they one list? -/
theorem St.compare (U : DiskUse At) (H : JournalOk At Own) {u v : Value} {x y : List (List UInt8)} (h : St At Own W Z dv jv n d j L B arr w) (hu : (u, x) ∈ L) (hv : (v, y) ∈ L) (hx : x.length ≤ 1000000) :
    Calls Try.prog 17 #[u, v] w fun e w' => e = .returned (.bool (decide (x = y))) ∧ St At Own W Z dv jv n d j L B arr w' := by
  refine (texts_any (h.sty.each _ hu) (h.sty.each _ hv) hx).mono ?_
  rintro e w' ⟨rfl, hb⟩
  exact ⟨rfl, h.below U H hb⟩

set_option maxRecDepth 100000 in
theorem St.alike (U : DiskUse At) (H : JournalOk At Own) {u v : Value} (x : List (List UInt8)) (h : St At Own W Z dv jv n d j L B arr w) (hu : (u, x) ∈ L) (hv : (v, x) ∈ L) (hx : x.length ≤ 1000000) :
    Calls Try.prog 17 #[u, v] w fun e w' => e = .returned (.bool true) ∧ St At Own W Z dv jv n d j L B arr w' := by
  have := h.compare U H hu hv hx
  rw [decide_eq_true rfl] at this
  exact this

/-! ### At the head of the loop -/

structure Kp (At : World → (Nat → Prop) → Value → D → Prop) (Own : World → (Nat → Prop) → Value → Value → Nat → J → Prop) (W : World) (dv jv : Value) (n k : Nat) (d : D) (j : J) (sv : Value) (sl : List (List UInt8)) (w : World) : Prop where
  out : ∃ Z, Jw At Own W Z dv jv n d j w ∧ Cells w Z sv (texts sl) ∧ ∀ i, i < W.heap.size → Z i
  live : Live n d j sl
  calm : Calm d
  fine : d.Fine (3 + k * 33)
  seq : j.seq ≤ k + 1
  four : 4 ≤ n
  few : n ≤ 63

set_option maxRecDepth 100000 in
theorem Kp.next {sv : Value} {k : Nat} (h : Kp At Own W dv jv n k d j sv l w) : Kp At Own W dv jv n (k + 1) d j sv l w := ⟨h.out, h.live, h.calm, h.fine.mono (by omega), by have := h.seq; omega, h.four, h.few⟩

set_option maxRecDepth 100000 in
/-- An act lies in a block of its own. -/
theorem Kp.box (U : DiskUse At) (H : JournalOk At Own) {sv : Value} {k : Nat} (h : Kp At Own W dv jv n k d j sv l w) (arr : Array Value) :
    ∃ Z, St At Own W Z dv jv n d j [(sv, l)] w.heap.size arr (w.alloc (.cells arr 35)) := by
  obtain ⟨Z, h1, h2, h3⟩ := h.out
  have hb : Below w.heap.size w (w.alloc (.cells arr 35)) := (Below.refl _ _).alloc (Nat.le_refl _) _
  refine ⟨fun i => Z i ∨ i = w.heap.size, h1.more U H hb (fun i hi => hi.elim Or.inl (fun e => Or.inr (by subst e; simp))), ?_, fun i hi => Or.inl (h3 i hi), Row.made w _ arr, Or.inr rfl⟩
  intro x hx
  rw [List.mem_singleton.1 hx]
  exact (h2.below hb).mono (fun _ h => Or.inl h)

set_option maxRecDepth 100000 in
theorem St.kp {sv : Value} {k : Nat} (h : St At Own W Z dv jv n d j L B arr w) (hs : (sv, l) ∈ L) (hl : Live n d j l) (hc : Calm d) (hf : d.Fine (3 + k * 33)) (hq : j.seq ≤ k + 1) (h4 : 4 ≤ n) (h63 : n ≤ 63) : Kp At Own W dv jv n k d j sv l w :=
  ⟨⟨Z, h.jw, h.sty.each _ hs, h.sty.old⟩, hl, hc, hf, hq, h4, h63⟩

set_option maxRecDepth 100000 in
theorem live_few (hl : Live n d j l) (hn : n ≤ 63) : l.length ≤ 400 := by
  have h1 := hl.fits
  rw [hl.recs] at h1
  have h2 : ∀ m : List (List UInt8), 5 * m.length ≤ (Frm.all m).length := fun m => by
    induction m with
    | nil => exact Nat.zero_le _
    | cons t m ih => have := Frm.one_pos t; rw [Frm.all_cons, List.length_append, List.length_cons]; omega
  have h3 := h2 l
  have h4 : Jnl.hof n ≤ 30 := by unfold Jnl.hof; omega
  omega
end
end Go.Proofs.Ytcgplonnhginiaa
/- The built-in append of a slice of texts to the call's own: as a run of its own. -/
set_option linter.unusedSimpArgs false
set_option linter.unusedVariables false
namespace Go.Proofs.Ytcgplonnhginiaa
open Go.RowKit Dsk Jnl

set_option maxRecDepth 100000 in
theorem Jnl.strInfo : (Try.prog.info? 9).map (fun i => (i.zero, i.size, i.bytes)) = some (some (.string ⟨#[]⟩), 1, 16) := by kernel_rfl

set_option maxRecDepth 100000 in
theorem Jnl.own_below {w w' : World} {base t size n : Nat} {v : Value} {xs : List Value} (h : w.ownsRow base t size v n xs) (k : Below w.heap.size w w') : w'.ownsRow base t size v n xs :=
  h.kept (Kept.ofBelow k (fun i => i = w.heap.size)).grown (Or.inr (fun e => by have := (h.lt _ e).2; omega))

set_option maxRecDepth 100000 in
theorem join_none {P : Program} {w : World} (base : Nat) (t ty e : TypeId) (i : TypeInfo) (size c : Nat) (ht : P.underlying t = some (.slice e)) (hi : P.info? e = some i) (v : Value) (n : Nat) (xs : List Value) (hown : w.ownsRow base e size v n xs) :
    (Builtin.append_ #[t, t] ty #[v, .slice none 0 c]).run P w = .ok v w := by
  rcases hown.2 with ⟨rfl, rfl⟩ | ⟨g, cap, cur, rfl, _, _, hnc, _⟩
  · simp [Builtin.append_, run_underlying ht, sizeOf, typeInfo, hi, Builtin.lenOf, Builtin.firstCells]
  · simp [Builtin.append_, run_underlying ht, sizeOf, typeInfo, hi, Builtin.lenOf, Builtin.firstCells, hnc, storeCells]

set_option maxRecDepth 100000 in
/-- The call's own texts, and behind them those of a slice. -/
theorem join_texts {w : World} {base : Nat} {F : Nat → Prop} {v xv : Value} {us vs : List (List UInt8)} (ty : TypeId) (hown : w.ownsRow base 9 1 v us.length (texts us)) (hb : base ≤ w.heap.size) (hx : Cells w F xv (texts vs)) (hl : us.length + vs.length ≤ 1000000) :
    ∃ v' w', (Builtin.append_ #[30, 30] ty #[v, xv]).run Try.prog w = .ok v' w' ∧ w'.ownsRow base 9 1 v' (us ++ vs).length (texts (us ++ vs)) ∧ w.grownBy w' v.ownBlock := by
  obtain ⟨i0, hi, hz0, hz1, hz2⟩ := info_parts Jnl.strInfo
  obtain ⟨A, c, rfl, hc, hat⟩ := hx
  rw [texts_len] at hc hat ⊢
  have htx : texts us ++ texts vs = texts (us ++ vs) := by unfold texts; rw [List.map_append]
  have hone : ∀ u ∈ texts vs, u.oneCell' = true := by
    intro u hu
    unfold texts at hu
    obtain ⟨t, -, rfl⟩ := List.mem_map.1 hu
    rfl
  have hgo : ∀ ad : Addr, A = some ad → (∀ j u, (texts vs)[j]? = some u → w.cell? (ad.add j) = some u) → ∃ v' w', (Builtin.append_ #[30, 30] ty #[v, .slice A vs.length c]).run Try.prog w = .ok v' w' ∧ w'.ownsRow base 9 1 v' (us ++ vs).length (texts (us ++ vs)) ∧ w.grownBy w' v.ownBlock := by
    rintro ad rfl hnews
    obtain ⟨v', w', h1, h2, h3, -⟩ := run_append_own w base 30 ty 9 i0 (.string ⟨#[]⟩) 1 16 Try.underlying30 hi hz0 hz1 hz2 rfl (by decide) v us.length (texts us) hown ad vs.length c (texts vs) (by rw [texts_len, Nat.mul_one]) hnews hone (by unfold maxLen; omega) (by omega) hb
    exact ⟨v', w', h1, by rw [List.length_append, ← htx]; exact h2, h3⟩
  by_cases h0 : 0 < vs.length
  · obtain ⟨b, o, rfl, -, hbl, hcell⟩ := hat h0
    exact hgo _ rfl (fun j u hu => by rw [Go.WideShapes.add_plain]; exact hcell j u hu)
  · have hvs : vs = [] := List.eq_nil_of_length_eq_zero (by omega)
    subst hvs
    cases A with
    | none =>
      refine ⟨v, w, join_none base _ ty 9 i0 1 c Try.underlying30 hi v us.length (texts us) hown, by rw [List.append_nil]; exact hown, rfl, rfl, rfl, Nat.le_refl _, fun _ _ _ => rfl⟩
    | some ad => exact hgo ad rfl (fun j u hu => by cases hu)

set_option maxRecDepth 100000 in
theorem step_join {ops : Array Oper} {o : Oper} {a : Act} {w : World} {K : Act → World → Prop} {Q : Exit → Act → World → Prop} {E : Prop} (s x : Operand) (hgd : o.guard = none)
    (ho : o.op = .call { callee := .builtin .append, args := #[s, x], argTypes := #[30, 30] }) {base : Nat} {F : Nat → Prop} {v xv : Value} {us vs : List (List UInt8)} (hs : a.eval s = v) (hx : a.eval x = xv)
    (hown : w.ownsRow base 9 1 v us.length (texts us)) (hb : base ≤ w.heap.size) (hc : Cells w F xv (texts vs)) (hl : us.length + vs.length ≤ 1000000)
    (h : ∀ v' w', w'.ownsRow base 9 1 v' (us ++ vs).length (texts (us ++ vs)) → w.grownBy w' v.ownBlock → K (a.put o.dst v') w') :
    if Region.wanted o (yielded ops a.tmps) = true then Oper.wp Try.prog o a w K Q else E := by
  have hw : Region.wanted o (yielded ops a.tmps) = true := by simp [Region.wanted, hgd]
  rw [if_pos hw]
  obtain ⟨v', w', hr, h2, h3⟩ := join_texts o.type hown hb hc hl
  unfold Oper.wp execOp
  simp only [ho, resolve, invoke, builtin, Sem.run_bind, Sem.run_pure, Result.andThen_ok, List.map_toArray, List.map_cons, List.map_nil, hs, hx, hr]
  exact h v' w' h2 h3
end Go.Proofs.Ytcgplonnhginiaa
/- JournalKeeps's walk, out of the contracts. -/
set_option linter.unusedSimpArgs false
set_option linter.unusedVariables false
namespace Go.Proofs.Ytcgplonnhginiaa
open Go.RowKit Dsk Jnl
section
variable {At : World → (Nat → Prop) → Value → D → Prop} {Own : World → (Nat → Prop) → Value → Value → Nat → J → Prop}

set_option maxRecDepth 100000 in
set_option maxHeartbeats 12800000 in
theorem keeps_walk (U : DiskUse At) (H : JournalOk At Own) (s : Nat) (lA : Option Addr) (ln lc : Nat) (l : List An) (w : World) (hs : s < 256) (hlc : ln ≤ 9223372036854775807) (hl : AnsIn w lA ln l) :
    Calls Try.prog 3 #[.int .u8 (s : Int), .slice lA ln lc] w fun e w' => e = .returned (.bool true) ∧ Below w.heap.size w w' := by
  obtain ⟨hll, hok, hat⟩ := hl
  obtain ⟨n, hn⟩ : ∃ n : Nat, n = s % 60 + 4 := ⟨_, rfl⟩
  have hn4 : 4 ≤ n := by omega
  have hn63 : n ≤ 63 := by omega
  have hns : (s : Int) % 60 + 4 = (n : Int) := by omega
  have hnlo : (4 : Int) ≤ (n : Int) := by omega
  have hnhi : (n : Int) ≤ 63 := by omega
  have hsi : (s : Int) < 256 := by omega
  have hlc' : (ln : Int) ≤ 9223372036854775807 := by omega
  have UU := Lib.hid U
  have HH := Lib.hid H
  have Hat := Lib.hid hat
  have Hok := Lib.hid hok
  have Hll := Lib.hid hll
  obtain ⟨f1, l1⟩ := format_new hn4
  have fin1 : (Jnl.format (Dsk.new n)).2.Fine 3 := format_fine (new_fine n (by omega))
  have cal1 : Calm (Jnl.format (Dsk.new n)).2 := calm_format (calm_new n)
  have C0 := Lib.hid (dw_new U n w (by omega) (by omega))
  have Caw := Lib.hid (fun W => jnl_awake U H W)
  have C1 : Hid (∀ W p, Dw At w (fun _ => False) (.pointer (some p)) (Dsk.new n) W → Calls Try.prog 8 #[.pointer (some p)] W fun e w' => e = .returned (.int .i64 0) ∧ Dw At w (fun _ => False) (.pointer (some p)) (Jnl.format (Dsk.new n)).2 w' ∧ SameZ (fun _ => False) W w') := Lib.hid (fun W p h => by
    rw [← f1]
    have hsd : Sound n (Dsk.new n) 0 := ⟨shape_new n, new_fine n (by omega), hn4, fun k hk => by unfold Jnl.now; rw [new_last n k hk]; exact fill_full _ (by decide)⟩
    exact h.call (fun F hF => H.format hF hsd (by decide)))
  have Db : Hid (∀ W W' p, Dw At w (fun _ => False) (.pointer (some p)) (Jnl.format (Dsk.new n)).2 W → Below W.heap.size W W' → Dw At w (fun _ => False) (.pointer (some p)) (Jnl.format (Dsk.new n)).2 W') := Lib.hid (fun W W' p h k => (h.below U k).1)
  have C2 : Hid (∀ W p, Dw At w (fun _ => False) (.pointer (some p)) (Jnl.format (Dsk.new n)).2 W → Calls Try.prog 10 #[.pointer (some p)] W fun e w' => ∃ q A c, e = .returned (.tuple #[.pointer (some q), .slice A 0 c, .int .i64 0]) ∧ Kp At Own w (.pointer (some p)) (.pointer (some q)) n 0 (Jnl.format (Dsk.new n)).2 ⟨1, 0, [], false⟩ (.slice A 0 c) [] w') := Lib.hid (fun W p h => by
    refine (h.opened U H l1 fin1 (by decide) hn4).mono ?_
    rintro e w' ⟨q, lv, G, rfl, k1, k2, k3, k4⟩
    have hc := k2
    obtain ⟨A, c, rfl, -, -⟩ := k2
    have hold : Jw At Own w (fun i => G i ∨ i < w.heap.size) (.pointer (some p)) (.pointer (some q)) n (Jnl.format (Dsk.new n)).2 ⟨1, 0, [], false⟩ w' := by
      obtain ⟨⟨F, h1, h4⟩, h6, h7⟩ := k1
      exact ⟨⟨F, h1, fun i hi => ⟨(h4 i hi).1, fun hz => hz.elim (fun hg => (h4 i hi).2 (Or.inr hg)) (fun hlt => by have := (h4 i hi).1; omega)⟩⟩, h6, fun i hi => hi.elim (fun hg => h7 i (Or.inr hg)) (fun hlt => Nat.lt_of_lt_of_le hlt h6.size)⟩
    exact ⟨q, A, c, rfl, ⟨_, hold, hc.mono (fun _ h => Or.inl h), fun i hi => Or.inr hi⟩, l1, cal1, fin1, by decide, hn4, hn63⟩)
  clear f1 l1 fin1 cal1 hat hok hll U H hn
  generalize (Jnl.format (Dsk.new n)).2 = d0 at *
  go_enter Try.func3, Try.ntmps3
  go_wp2_with fail
  refine C0.out.mono ?_
  rintro e w1 ⟨p, rfl, h1⟩
  have H1 := Lib.hid h1
  clear h1
  go_wp2_with fail
  refine (C1.out _ _ H1.out).mono ?_
  rintro e w2 ⟨rfl, h2, -⟩
  have H2 := Lib.hid h2
  clear h2
  go_wp2_with fail
  refine (Caw.out _).mono ?_
  rintro e w3 ⟨rfl, h3⟩
  have H3 := Lib.hid (Db.out _ _ _ H2.out h3)
  clear h3
  go_wp2_with fail
  refine (C2.out _ _ H3.out).mono ?_
  rintro e w4 ⟨q, A0, c0, rfl, h4⟩
  have H4 := Lib.hid h4
  clear h4 H1 H2 H3 C0 C1 C2 Db Caw
  go_wp2_with fail
  go_loopw [7, 8, 10] (fun jv sv i wr => ∃ (k : Nat) (q : Addr) (d : D) (j : J) (sl : List (List UInt8)), k ≤ ln ∧ k ≤ 30 ∧ i = .int .i64 (k : Int) ∧ jv = .pointer (some q) ∧ Kp At Own w (.pointer (some p)) (.pointer (some q)) n k d j sv sl wr) (fun _ _ i _ => 30 - (intOf i).toNat)
  case atStart => exact ⟨0, q, d0, _, [], Nat.zero_le _, by decide, rfl, rfl, H4.out⟩
  case round =>
    clear H4
    obtain ⟨k, q1, d, j, sl, hk, hk30, rfl, rfl, hkp⟩ := hrel
    obtain ⟨sA, scp, hsv⟩ : ∃ A c, u8 = .slice A sl.length c := by
      obtain ⟨Z, -, hc, -⟩ := hkp.out
      obtain ⟨A, c, e, -, -⟩ := hc
      rw [texts_len] at e
      exact ⟨A, c, e⟩
    subst hsv
    have Hkp := Lib.hid hkp
    by_cases hgo : k < ln ∧ k < 30
    · obtain ⟨hkl, hk2⟩ := hgo
      obtain ⟨b, off, rfl, hb, hcs⟩ := Hat.out (by omega)
      obtain ⟨x, hx⟩ : ∃ x, l[k]? = some x := ⟨_, List.getElem?_eq_getElem (by rw [Hll.out]; exact hkl)⟩
      have hxok := Hok.out x (List.mem_of_getElem? hx)
      obtain ⟨g0, g1, g2, g3, g4⟩ := hcs k x hx
      obtain ⟨rw0, ag, ⟨xA, xl, xc, a⟩, arm, kA, kn, kc, ks⟩ := x
      have hbel : Below w.heap.size w wr := by obtain ⟨Z, h1, -, -⟩ := hkp.out; exact h1.bel
      have e0 : wr.cell? ⟨b, off + k * 5, none⟩ = some (.bool rw0) := (hbel.cell (p := ⟨b, off + k * 5, none⟩) hb).trans g0
      have e1 : wr.cell? ⟨b, off + k * 5 + 1, none⟩ = some (.bool ag) := (hbel.cell (p := ⟨b, off + k * 5 + 1, none⟩) hb).trans g1
      have e2 : wr.cell? ⟨b, off + k * 5 + 2, none⟩ = some (.slice xA xl xc) := (hbel.cell (p := ⟨b, off + k * 5 + 2, none⟩) hb).trans g2
      have e3 : wr.cell? ⟨b, off + k * 5 + 3, none⟩ = some (.int .i64 arm) := (hbel.cell (p := ⟨b, off + k * 5 + 3, none⟩) hb).trans g3
      have e4 : wr.cell? ⟨b, off + k * 5 + 4, none⟩ = some (.slice kA kn kc) := (hbel.cell (p := ⟨b, off + k * 5 + 4, none⟩) hb).trans g4
      have hal : a.length ≤ 9223372036854775807 := hxok.ln.len
      have hac : Cells w (fun i => i < w.heap.size) (.slice xA xl xc) (texts a) := hxok.ln.cells
      have hxl : xl = a.length := by
        obtain ⟨A', c', e, -, -⟩ := hac
        injection e with e1 e2 e3
        rw [e2, texts_len]
      subst hxl
      have hkc : Cells w (fun i => i < w.heap.size) (.slice kA kn kc) (ks.map (Value.int .i64)) := hxok.keep
      have hka := hxok.each
      have hkf := hxok.few
      have ha1 : -9223372036854775808 ≤ arm := hxok.low
      have ha2 : arm ≤ 9223372036854775807 := hxok.high
      have Hac := Lib.hid hac
      have Hkc := Lib.hid hkc
      have Hka := Lib.hid (And.intro hka hkf)
      obtain ⟨Z, hst⟩ := hkp.box UU.out HH.out #[.bool rw0, .bool ag, .slice xA a.length xc, .int .i64 arm, .slice kA kn kc]
      have Hst := Lib.hid hst
      have b2 : (wr.alloc (.cells #[.bool rw0, .bool ag, .slice xA a.length xc, .int .i64 arm, .slice kA kn kc] 35)).cell? ⟨wr.heap.size, 2, none⟩ = some (.slice xA a.length xc) := hst.cell 2
      have Csl := Lib.hid (fun W (hW : Below w.heap.size w W) => slight_any (hac.below hW) hal)
      have Hb5 := Lib.hid hst.jw.bel
      have hk0 : (0 : Int) ≤ (k : Int) := by omega
      have hk1 : (k : Int) < (ln : Int) := by omega
      have hk3 : (k : Int) < 30 := by omega
      have hkn : decide (k < ln) = true := by simp; omega
      have hk33 : decide ((k : Int) < 30) = true := by simp; omega
      have hlast := Lib.hid (And.intro hkl hk2)
      clear hcs hx hxok g0 g1 g2 g3 g4 hac hkc hka hkf hal hkp hst hbel hkl hk2
      by_cases hsl : Slight a
      · have Csl1 : Hid (∀ W, Below w.heap.size w W → Calls Try.prog 11 #[.slice xA a.length xc] W fun e w' => e = .returned (.bool true) ∧ w' = W) := Lib.hid (fun W hW => by have := Csl.out W hW; rw [decide_eq_true hsl] at this; exact this)
        have Hsa : Hid (SlightAll a) := Lib.hid ⟨hsl.1, hsl.2⟩
        cases rw0
        · skip
          have Hl := Lib.hid Hkp.out.live
          have Hc := Lib.hid Hkp.out.calm
          have Hf := Lib.hid Hkp.out.fine
          have Hq := Lib.hid Hkp.out.seq
          obtain ⟨g, d2, j2, hres, hout⟩ := call_out false (a := a) (Hl.out.arm arm) hn4 (by omega) (by have := Hq.out; omega) (by have := Hsa.out.all; omega) (fun t ht => by have := Hsa.out.each t ht; omega)
          have Hout := Lib.hid hout
          have h30 := hof_63 hn63
          have Hf2 := Lib.hid (call_fine hres (Hf.out.arm arm ha2))
          have Hf8 : Hid ((d2.arm 0).Fine (3 + k * 33 + Jnl.hof n + 3)) := Lib.hid (Hf2.out.arm 0 (by decide))
          have Carm := Lib.hid (Hst.out.arm UU.out HH.out Hf.out (by omega) arm ha1 ha2)
          have Hres := Lib.hid hres
          clear hout hres hsl Csl
          go_wp2_with fail
          refine (Csl1.out _ Hb5.out).mono ?_
          rintro e w' ⟨rfl, rfl⟩
          go_wp2_with fail
          refine Carm.out.mono ?_
          rintro e w6 ⟨rfl, h6⟩
          have d0c := h6.cell 0
          have d2c := h6.cell 2
          simp only [List.getElem?_toArray, List.getElem?_cons_succ, List.getElem?_cons_zero] at d0c d2c
          have H6 := Lib.hid (h6.known Hac.out)
          have HC : Hid (∀ w', Below w6.heap.size w6 w' → w'.cell? ⟨wr.heap.size, 2, none⟩ = some (.slice xA a.length xc)) := Lib.hid (fun w' hb' => by
            have := (H6.out.below UU.out HH.out hb').cell 2
            simpa only [List.getElem?_toArray, List.getElem?_cons_succ, List.getElem?_cons_zero] using this)
          clear h6
          go_wp2_with fail
          refine wp_region_held_drew (S := fun w' => w'.cell? ⟨wr.heap.size, 2, none⟩ = some (.slice xA a.length xc)) (by kernel_rfl) d2c (fun hHeld => ?_)
          refine wpAnyH_take (i := 1) (v := ?_) rfl (by kernel_rfl) (by kernel_rfl) (by kernel_rfl) (fun _ _ _ h => h) (Or.inl ⟨by rfl, (by intro w hSw; go_simp; try with_reducible rfl)⟩) (by assumption) ?_
          simp only [Act.put, List.getElem_toArray, List.getElem_cons_zero, List.getElem_cons_succ, List.setIfInBounds_toArray, List.set_cons_zero, List.set_cons_succ]
          refine wpAnyH_take (i := 3) (v := ?_) rfl (by kernel_rfl) (by kernel_rfl) (by kernel_rfl) (fun _ _ _ h => h) (Or.inl ⟨by rfl, (by intro w hSw; go_simp; try with_reducible rfl)⟩) (by assumption) ?_
          simp only [Act.put, List.getElem_toArray, List.getElem_cons_zero, List.getElem_cons_succ, List.setIfInBounds_toArray, List.set_cons_zero, List.set_cons_succ]
          refine wpAnyH_take (i := 4) (v := ?_) rfl (by kernel_rfl) (by kernel_rfl) (by kernel_rfl) (fun _ _ _ h => h) (Or.inl ⟨by rfl, (by intro w hSw; have hcl := hSw; go_simp; try with_reducible rfl)⟩) (by assumption) ?_
          simp only [Act.put, List.getElem_toArray, List.getElem_cons_zero, List.getElem_cons_succ, List.setIfInBounds_toArray, List.set_cons_zero, List.set_cons_succ]
          refine wpAnyH_ready (rs := [0]) (by kernel_rfl) (by simp) ?_
          refine AllReadyH.cons rfl (fun K hK => ?_) AllReadyH.nil
          go_simp
          have hbx : Below w6.heap.size w6 ((w6.alloc (.cells #[] 9)).drew) := ((Below.refl _ w6).alloc (Nat.le_refl _) _).drew
          have hox : ((w6.alloc (.cells #[] 9)).drew).ownsRow w6.heap.size 9 1 (.slice (some ⟨w6.heap.size, 0, none⟩) 0 0) ([] : List (List UInt8)).length (texts []) := Jnl.own_below (World.ownsRow_made w6 #[] 0 (Nat.le_refl _) (by decide) rfl) ((Below.refl _ _).drew)
          refine hK.out _ _ (HC.out _ hbx) (fun hHeld => ?_)
          have HX := Lib.hid (And.intro hbx hox)
          clear hbx hox
          generalize (w6.alloc (.cells #[] 9)).drew = X1 at *
          clear hK K
          refine wpAnyH_ready (rs := [2]) (by kernel_rfl) (by simp) ?_
          refine AllReadyH.cons rfl (fun K hK => ?_) AllReadyH.nil
          refine step_join (.tmp 90) (.tmp 91) rfl (by rfl) (us := []) (vs := sl) (v := .slice (some ⟨w6.heap.size, 0, none⟩) 0 0) (xv := .slice sA sl.length scp) (by go_simp; try with_reducible rfl) (by go_simp; try with_reducible rfl) HX.out.2 HX.out.1.size ((H6.out.below UU.out HH.out HX.out.1).sty.each (.slice sA sl.length scp, sl) (by simp)) (by have := live_few Hl.out hn63; simp; omega) ?_
          intro v1 X2 ho1 hg1
          rw [List.nil_append] at ho1
          have hb2 : Below w6.heap.size w6 X2 := HX.out.1.grown hg1 HX.out.1.size (fun k hk => (HX.out.2.lt k hk).1)
          refine hK.out _ _ (HC.out _ hb2) (fun hHeld => ?_)
          have HX2 := Lib.hid (And.intro hb2 ho1)
          clear ho1 hg1 hb2 HX
          clear hK K
          refine wpAnyH_ready (rs := [5]) (by kernel_rfl) (by simp) ?_
          refine AllReadyH.cons rfl (fun K hK => ?_) AllReadyH.nil
          refine step_join (.tmp 92) (.tmp 94) rfl (by rfl) (us := sl) (vs := a) (v := v1) (xv := .slice xA a.length xc) (by go_simp; try with_reducible rfl) (by go_simp; try with_reducible rfl) HX2.out.2 HX2.out.1.size ((H6.out.below UU.out HH.out HX2.out.1).sty.each (.slice xA a.length xc, a) (by simp)) (by have := live_few Hl.out hn63; have := Hsa.out.few; omega) ?_
          intro v2 X3 ho2 hg2
          have hb3 : Below w6.heap.size w6 X3 := HX2.out.1.grown hg2 HX2.out.1.size (fun k hk => (HX2.out.2.lt k hk).1)
          refine hK.out _ _ (HC.out _ hb3) (fun hHeld => ?_)
          have H17 := Lib.hid (H6.out.more UU.out HH.out hb3 (Cells.ofOwn ho2 (fun _ _ h1 h2 => ⟨h1, h2⟩)))
          clear ho2 hg2 hb3 HX2
          clear hK K
          refine wpAnyH_take (i := 6) (v := ?_) rfl (by kernel_rfl) (by kernel_rfl) (by kernel_rfl) (fun _ _ _ h => h) (Or.inl ⟨by rfl, (by intro w hSw; go_simp; try with_reducible rfl)⟩) (by assumption) ?_
          simp only [Act.put, List.getElem_toArray, List.getElem_cons_zero, List.getElem_cons_succ, List.setIfInBounds_toArray, List.set_cons_zero, List.set_cons_succ]
          refine wpAnyH_done (by kernel_rfl) ?_ _
          have e2c := H17.out.cell 2
          simp only [List.getElem?_toArray, List.getElem?_cons_succ, List.getElem?_cons_zero] at e2c
          have Ccl := Lib.hid (H17.out.call UU.out HH.out false (live_sound (Hl.out.arm arm) (Hf.out.arm arm ha2) hn4) (Hl.out.arm arm).toHeld (by omega) Hac.out Hsa.out Hres.out)
          go_wp2_with fail
          refine Ccl.out.mono ?_
          rintro e w7 ⟨rfl, h7⟩
          have Car := Lib.hid (h7.arm UU.out HH.out Hf2.out (by omega) 0 (by decide) (by decide))
          clear h7
          go_wp2_with fail
          refine Car.out.mono ?_
          rintro e w8 ⟨rfl, h8⟩
          have H8 := Lib.hid h8
          clear h8
          rcases Hout.out with ⟨rfl, hlive, hq⟩ | ⟨rfl, rfl, rfl⟩ | ⟨rfl, hbr, j3, hq, hfall⟩
          · have hlive : Live n d2 j2 (sl ++ a) := hlive
            have Hlv := Lib.hid (hlive.arm 0)
            have Hqq := Lib.hid hq
            have Hup := Lib.hid hlive.up
            clear hlive hq
            have c1 := H8.out.cell 1
            simp only [List.getElem?_toArray, List.getElem?_cons_succ, List.getElem?_cons_zero] at c1
            cases ag
            · go_wp2_with fail
              go_roundw
              case rel => exact ⟨k + 1, q1, _, _, sl ++ a, by omega, by omega, by go_num, rfl, H8.out.kp (by simp) Hlv.out (calm_arm Hup.out) (Hf8.out.mono (by omega)) (by have := Hq.out; have := Hqq.out; omega) hn4 hn63⟩
              case measure => simp [intOf]; omega
            · skip
              have Clc := Lib.hid ((Hlv.out.crash hn4 ks).1)
              have Cfc := Lib.hid ((Hf8.out).crash ks)
              have c4 := H8.out.cell 4
              have Ccr := Lib.hid (H8.out.crash UU.out (Hf8.out) (by omega) Hkc.out Hka.out.1 Hka.out.2)
              simp only [List.getElem?_toArray, List.getElem?_cons_succ, List.getElem?_cons_zero] at c4
              go_wp2_with fail
              refine Ccr.out.mono ?_
              rintro e w9 ⟨rfl, h9⟩
              have Cop := Lib.hid (h9.opened UU.out HH.out Clc.out Cfc.out (by omega) hn4)
              clear h9
              go_wp2_with fail
              refine Cop.out.mono ?_
              rintro e w10 ⟨p1, lv1, Z1, rfl, h10⟩
              have Cag := Lib.hid (h10.again UU.out HH.out Clc.out Cfc.out (by omega) hn4)
              clear h10
              go_wp2_with fail
              refine Cag.out.mono ?_
              rintro e w11 ⟨p2, lv2, Z2, rfl, h11⟩
              have Ct1 := Lib.hid (h11.alike UU.out HH.out (u := lv1) (v := lv2) (sl ++ a) (by simp) (by simp) (by have := live_few Clc.out hn63; omega))
              clear h11
              go_wp2_with fail
              refine Ct1.out.mono ?_
              rintro e w12 ⟨rfl, h12⟩
              have Ct2 := Lib.hid (h12.alike UU.out HH.out (u := lv1) (v := v2) (sl ++ a) (by simp) (by simp) (by have := live_few Clc.out hn63; omega))
              clear h12
              go_wp2_with fail
              refine Ct2.out.mono ?_
              rintro e w13 ⟨rfl, h13⟩
              have HEND := Lib.hid h13
              clear h13
              go_wp2_with fail

              go_roundw
              case rel => exact ⟨k + 1, p1, _, _, sl ++ a, by omega, by omega, by go_num, rfl, HEND.out.kp (by simp) Clc.out (calm_crash _ _) (Cfc.out.mono (by omega)) (by have := Hq.out; have := Hqq.out; omega) hn4 hn63⟩
              case measure => simp [intOf]; omega
          · have Hlv := Lib.hid ((Hl.out.arm arm).arm 0)
            have Hup := Lib.hid Hl.out.up
            have c1 := H8.out.cell 1
            simp only [List.getElem?_toArray, List.getElem?_cons_succ, List.getElem?_cons_zero] at c1
            cases ag
            · go_wp2_with fail
              go_roundw
              case rel => exact ⟨k + 1, q1, _, _, sl, by omega, by omega, by go_num, rfl, H8.out.kp (by simp) Hlv.out (calm_arm Hup.out) (Hf8.out.mono (by omega)) (by have := Hq.out; omega) hn4 hn63⟩
              case measure => simp [intOf]; omega
            · skip
              have Clc := Lib.hid ((Hlv.out.crash hn4 ks).1)
              have Cfc := Lib.hid ((Hf8.out).crash ks)
              have c4 := H8.out.cell 4
              have Ccr := Lib.hid (H8.out.crash UU.out (Hf8.out) (by omega) Hkc.out Hka.out.1 Hka.out.2)
              simp only [List.getElem?_toArray, List.getElem?_cons_succ, List.getElem?_cons_zero] at c4
              go_wp2_with fail
              refine Ccr.out.mono ?_
              rintro e w9 ⟨rfl, h9⟩
              have Cop := Lib.hid (h9.opened UU.out HH.out Clc.out Cfc.out (by omega) hn4)
              clear h9
              go_wp2_with fail
              refine Cop.out.mono ?_
              rintro e w10 ⟨p1, lv1, Z1, rfl, h10⟩
              have Cag := Lib.hid (h10.again UU.out HH.out Clc.out Cfc.out (by omega) hn4)
              clear h10
              go_wp2_with fail
              refine Cag.out.mono ?_
              rintro e w11 ⟨p2, lv2, Z2, rfl, h11⟩
              have Ct1 := Lib.hid (h11.alike UU.out HH.out (u := lv1) (v := lv2) (sl) (by simp) (by simp) (by have := live_few Clc.out hn63; omega))
              clear h11
              go_wp2_with fail
              refine Ct1.out.mono ?_
              rintro e w12 ⟨rfl, h12⟩
              have Ct2 := Lib.hid (h12.alike UU.out HH.out (u := lv1) (v := (.slice sA sl.length scp)) (sl) (by simp) (by simp) (by have := live_few Clc.out hn63; omega))
              clear h12
              go_wp2_with fail
              refine Ct2.out.mono ?_
              rintro e w13 ⟨rfl, h13⟩
              have HEND := Lib.hid h13
              clear h13
              go_wp2_with fail

              go_roundw
              case rel => exact ⟨k + 1, p1, _, _, sl, by omega, by omega, by go_num, rfl, HEND.out.kp (by simp) Clc.out (calm_crash _ _) (Cfc.out.mono (by omega)) (by have := Hq.out; omega) hn4 hn63⟩
              case measure => simp [intOf]; omega
          · have Hfl := Lib.hid (hfall.arm 0)
            have Hbr := Lib.hid hbr
            obtain ⟨cur, j4, hlc, hcur, hq4⟩ := fallen_crash Hfl.out hn4 ks hq
            have Hlc := Lib.hid hlc
            have Hq4 := Lib.hid hq4
            have Cbr := Lib.hid (H8.out.broken HH.out)
            rw [hbr] at Cbr
            clear hfall hbr hq hlc hq4
            go_wp2_with fail
            refine Cbr.out.mono ?_
            rintro e w20 ⟨rfl, h20⟩
            have Crf := Lib.hid (h20.refuses UU.out HH.out (fallen_sound Hfl.out Hf8.out hn4) (by omega) Hbr.out)
            clear h20
            go_wp2_with fail
            refine Crf.out.mono ?_
            rintro e w21 ⟨rfl, h21⟩
            have H21 := Lib.hid h21
            clear h21
            have Clc := Lib.hid (Hlc.out)
            have Cfc := Lib.hid ((Hf8.out).crash ks)
            have c4 := H21.out.cell 4
            have Ccr := Lib.hid (H21.out.crash UU.out (Hf8.out) (by omega) Hkc.out Hka.out.1 Hka.out.2)
            simp only [List.getElem?_toArray, List.getElem?_cons_succ, List.getElem?_cons_zero] at c4
            go_wp2_with fail
            refine Ccr.out.mono ?_
            rintro e w9 ⟨rfl, h9⟩
            have Cop := Lib.hid (h9.opened UU.out HH.out Clc.out Cfc.out (by omega) hn4)
            clear h9
            go_wp2_with fail
            refine Cop.out.mono ?_
            rintro e w10 ⟨p1, lv1, Z1, rfl, h10⟩
            have Cag := Lib.hid (h10.again UU.out HH.out Clc.out Cfc.out (by omega) hn4)
            clear h10
            go_wp2_with fail
            refine Cag.out.mono ?_
            rintro e w11 ⟨p2, lv2, Z2, rfl, h11⟩
            have Ct1 := Lib.hid (h11.alike UU.out HH.out (u := lv1) (v := lv2) (cur) (by simp) (by simp) (by have := live_few Clc.out hn63; omega))
            clear h11
            go_wp2_with fail
            refine Ct1.out.mono ?_
            rintro e w12 ⟨rfl, h12⟩
            have Ct2 := Lib.hid (h12.compare UU.out HH.out (u := lv1) (v := (.slice sA sl.length scp)) (x := cur) (y := sl) (by simp) (by simp) (by have := live_few Clc.out hn63; omega))
            clear h12
            go_wp2_with fail
            refine Ct2.out.mono ?_
            rintro e w13 ⟨rfl, h13⟩
            by_cases hcs : cur = sl
            · have hd : decide (cur = sl) = true := decide_eq_true hcs
              have HEND := Lib.hid h13
              rw [hd]
              clear h13 hcs hcur
              go_wp2_with fail
              go_roundw
              case rel => exact ⟨k + 1, p1, _, _, cur, by omega, by omega, by go_num, rfl, HEND.out.kp (by simp) Clc.out (calm_crash _ _) (Cfc.out.mono (by omega)) (by have := Hq.out; have := Hq4.out; omega) hn4 hn63⟩
              case measure => simp [intOf]; omega
            · have hd : decide (cur = sl) = false := decide_eq_false hcs
              have hd2 : decide (cur = sl ++ a) = true := decide_eq_true (hcur.resolve_left hcs)
              have Ct3 := Lib.hid (h13.compare UU.out HH.out (u := lv1) (v := v2) (x := cur) (y := sl ++ a) (by simp) (by simp) (by have := live_few Clc.out hn63; omega))
              rw [hd2] at Ct3
              rw [hd]
              clear h13 hcs hcur
              go_wp2_with fail
              refine Ct3.out.mono ?_
              rintro e w14 ⟨rfl, h14⟩
              have HEND := Lib.hid h14
              clear h14
              go_wp2_with fail

              go_roundw
              case rel => exact ⟨k + 1, p1, _, _, cur, by omega, by omega, by go_num, rfl, HEND.out.kp (by simp) Clc.out (calm_crash _ _) (Cfc.out.mono (by omega)) (by have := Hq.out; have := Hq4.out; omega) hn4 hn63⟩
              case measure => simp [intOf]; omega
        · skip
          have Hl := Lib.hid Hkp.out.live
          have Hc := Lib.hid Hkp.out.calm
          have Hf := Lib.hid Hkp.out.fine
          have Hq := Lib.hid Hkp.out.seq
          obtain ⟨g, d2, j2, hres, hout⟩ := call_out true (a := a) (Hl.out.arm arm) hn4 (by omega) (by have := Hq.out; omega) (by have := Hsa.out.all; omega) (fun t ht => by have := Hsa.out.each t ht; omega)
          have Hout := Lib.hid hout
          have h30 := hof_63 hn63
          have Hf2 := Lib.hid (call_fine hres (Hf.out.arm arm ha2))
          have Hf8 : Hid ((d2.arm 0).Fine (3 + k * 33 + Jnl.hof n + 3)) := Lib.hid (Hf2.out.arm 0 (by decide))
          have Carm := Lib.hid (Hst.out.arm UU.out HH.out Hf.out (by omega) arm ha1 ha2)
          have Hres := Lib.hid hres
          clear hout hres hsl Csl
          go_wp2_with fail
          refine (Csl1.out _ Hb5.out).mono ?_
          rintro e w' ⟨rfl, rfl⟩
          go_wp2_with fail
          refine Carm.out.mono ?_
          rintro e w6 ⟨rfl, h6⟩
          have d0c := h6.cell 0
          have d2c := h6.cell 2
          simp only [List.getElem?_toArray, List.getElem?_cons_succ, List.getElem?_cons_zero] at d0c d2c
          have Ccl := Lib.hid ((h6.known Hac.out).call UU.out HH.out true (live_sound (Hl.out.arm arm) (Hf.out.arm arm ha2) hn4) (Hl.out.arm arm).toHeld (by omega) Hac.out Hsa.out Hres.out)
          clear h6
          go_wp2_with fail
          refine Ccl.out.mono ?_
          rintro e w7 ⟨rfl, h7⟩
          have Car := Lib.hid (h7.arm UU.out HH.out Hf2.out (by omega) 0 (by decide) (by decide))
          clear h7
          go_wp2_with fail
          refine Car.out.mono ?_
          rintro e w8 ⟨rfl, h8⟩
          have H8 := Lib.hid h8
          clear h8
          rcases Hout.out with ⟨rfl, hlive, hq⟩ | ⟨rfl, rfl, rfl⟩ | ⟨rfl, hbr, j3, hq, hfall⟩
          · have hlive : Live n d2 j2 (a) := hlive
            have Hlv := Lib.hid (hlive.arm 0)
            have Hqq := Lib.hid hq
            have Hup := Lib.hid hlive.up
            clear hlive hq
            have c1 := H8.out.cell 1
            simp only [List.getElem?_toArray, List.getElem?_cons_succ, List.getElem?_cons_zero] at c1
            cases ag
            · go_wp2_with fail
              go_roundw
              case rel => exact ⟨k + 1, q1, _, _, a, by omega, by omega, by go_num, rfl, H8.out.kp (by simp) Hlv.out (calm_arm Hup.out) (Hf8.out.mono (by omega)) (by have := Hq.out; have := Hqq.out; omega) hn4 hn63⟩
              case measure => simp [intOf]; omega
            · skip
              have Clc := Lib.hid ((Hlv.out.crash hn4 ks).1)
              have Cfc := Lib.hid ((Hf8.out).crash ks)
              have c4 := H8.out.cell 4
              have Ccr := Lib.hid (H8.out.crash UU.out (Hf8.out) (by omega) Hkc.out Hka.out.1 Hka.out.2)
              simp only [List.getElem?_toArray, List.getElem?_cons_succ, List.getElem?_cons_zero] at c4
              go_wp2_with fail
              refine Ccr.out.mono ?_
              rintro e w9 ⟨rfl, h9⟩
              have Cop := Lib.hid (h9.opened UU.out HH.out Clc.out Cfc.out (by omega) hn4)
              clear h9
              go_wp2_with fail
              refine Cop.out.mono ?_
              rintro e w10 ⟨p1, lv1, Z1, rfl, h10⟩
              have Cag := Lib.hid (h10.again UU.out HH.out Clc.out Cfc.out (by omega) hn4)
              clear h10
              go_wp2_with fail
              refine Cag.out.mono ?_
              rintro e w11 ⟨p2, lv2, Z2, rfl, h11⟩
              have Ct1 := Lib.hid (h11.alike UU.out HH.out (u := lv1) (v := lv2) (a) (by simp) (by simp) (by have := live_few Clc.out hn63; omega))
              clear h11
              go_wp2_with fail
              refine Ct1.out.mono ?_
              rintro e w12 ⟨rfl, h12⟩
              have Ct2 := Lib.hid (h12.alike UU.out HH.out (u := lv1) (v := (.slice xA a.length xc)) (a) (by simp) (by simp) (by have := live_few Clc.out hn63; omega))
              clear h12
              go_wp2_with fail
              refine Ct2.out.mono ?_
              rintro e w13 ⟨rfl, h13⟩
              have HEND := Lib.hid h13
              clear h13
              go_wp2_with fail

              go_roundw
              case rel => exact ⟨k + 1, p1, _, _, a, by omega, by omega, by go_num, rfl, HEND.out.kp (by simp) Clc.out (calm_crash _ _) (Cfc.out.mono (by omega)) (by have := Hq.out; have := Hqq.out; omega) hn4 hn63⟩
              case measure => simp [intOf]; omega
          · have Hlv := Lib.hid ((Hl.out.arm arm).arm 0)
            have Hup := Lib.hid Hl.out.up
            have c1 := H8.out.cell 1
            simp only [List.getElem?_toArray, List.getElem?_cons_succ, List.getElem?_cons_zero] at c1
            cases ag
            · go_wp2_with fail
              go_roundw
              case rel => exact ⟨k + 1, q1, _, _, sl, by omega, by omega, by go_num, rfl, H8.out.kp (by simp) Hlv.out (calm_arm Hup.out) (Hf8.out.mono (by omega)) (by have := Hq.out; omega) hn4 hn63⟩
              case measure => simp [intOf]; omega
            · skip
              have Clc := Lib.hid ((Hlv.out.crash hn4 ks).1)
              have Cfc := Lib.hid ((Hf8.out).crash ks)
              have c4 := H8.out.cell 4
              have Ccr := Lib.hid (H8.out.crash UU.out (Hf8.out) (by omega) Hkc.out Hka.out.1 Hka.out.2)
              simp only [List.getElem?_toArray, List.getElem?_cons_succ, List.getElem?_cons_zero] at c4
              go_wp2_with fail
              refine Ccr.out.mono ?_
              rintro e w9 ⟨rfl, h9⟩
              have Cop := Lib.hid (h9.opened UU.out HH.out Clc.out Cfc.out (by omega) hn4)
              clear h9
              go_wp2_with fail
              refine Cop.out.mono ?_
              rintro e w10 ⟨p1, lv1, Z1, rfl, h10⟩
              have Cag := Lib.hid (h10.again UU.out HH.out Clc.out Cfc.out (by omega) hn4)
              clear h10
              go_wp2_with fail
              refine Cag.out.mono ?_
              rintro e w11 ⟨p2, lv2, Z2, rfl, h11⟩
              have Ct1 := Lib.hid (h11.alike UU.out HH.out (u := lv1) (v := lv2) (sl) (by simp) (by simp) (by have := live_few Clc.out hn63; omega))
              clear h11
              go_wp2_with fail
              refine Ct1.out.mono ?_
              rintro e w12 ⟨rfl, h12⟩
              have Ct2 := Lib.hid (h12.alike UU.out HH.out (u := lv1) (v := (.slice sA sl.length scp)) (sl) (by simp) (by simp) (by have := live_few Clc.out hn63; omega))
              clear h12
              go_wp2_with fail
              refine Ct2.out.mono ?_
              rintro e w13 ⟨rfl, h13⟩
              have HEND := Lib.hid h13
              clear h13
              go_wp2_with fail

              go_roundw
              case rel => exact ⟨k + 1, p1, _, _, sl, by omega, by omega, by go_num, rfl, HEND.out.kp (by simp) Clc.out (calm_crash _ _) (Cfc.out.mono (by omega)) (by have := Hq.out; omega) hn4 hn63⟩
              case measure => simp [intOf]; omega
          · have Hfl := Lib.hid (hfall.arm 0)
            have Hbr := Lib.hid hbr
            obtain ⟨cur, j4, hlc, hcur, hq4⟩ := fallen_crash Hfl.out hn4 ks hq
            have Hlc := Lib.hid hlc
            have Hq4 := Lib.hid hq4
            have Cbr := Lib.hid (H8.out.broken HH.out)
            rw [hbr] at Cbr
            clear hfall hbr hq hlc hq4
            go_wp2_with fail
            refine Cbr.out.mono ?_
            rintro e w20 ⟨rfl, h20⟩
            have Crf := Lib.hid (h20.refuses UU.out HH.out (fallen_sound Hfl.out Hf8.out hn4) (by omega) Hbr.out)
            clear h20
            go_wp2_with fail
            refine Crf.out.mono ?_
            rintro e w21 ⟨rfl, h21⟩
            have H21 := Lib.hid h21
            clear h21
            have Clc := Lib.hid (Hlc.out)
            have Cfc := Lib.hid ((Hf8.out).crash ks)
            have c4 := H21.out.cell 4
            have Ccr := Lib.hid (H21.out.crash UU.out (Hf8.out) (by omega) Hkc.out Hka.out.1 Hka.out.2)
            simp only [List.getElem?_toArray, List.getElem?_cons_succ, List.getElem?_cons_zero] at c4
            go_wp2_with fail
            refine Ccr.out.mono ?_
            rintro e w9 ⟨rfl, h9⟩
            have Cop := Lib.hid (h9.opened UU.out HH.out Clc.out Cfc.out (by omega) hn4)
            clear h9
            go_wp2_with fail
            refine Cop.out.mono ?_
            rintro e w10 ⟨p1, lv1, Z1, rfl, h10⟩
            have Cag := Lib.hid (h10.again UU.out HH.out Clc.out Cfc.out (by omega) hn4)
            clear h10
            go_wp2_with fail
            refine Cag.out.mono ?_
            rintro e w11 ⟨p2, lv2, Z2, rfl, h11⟩
            have Ct1 := Lib.hid (h11.alike UU.out HH.out (u := lv1) (v := lv2) (cur) (by simp) (by simp) (by have := live_few Clc.out hn63; omega))
            clear h11
            go_wp2_with fail
            refine Ct1.out.mono ?_
            rintro e w12 ⟨rfl, h12⟩
            have Ct2 := Lib.hid (h12.compare UU.out HH.out (u := lv1) (v := (.slice sA sl.length scp)) (x := cur) (y := sl) (by simp) (by simp) (by have := live_few Clc.out hn63; omega))
            clear h12
            go_wp2_with fail
            refine Ct2.out.mono ?_
            rintro e w13 ⟨rfl, h13⟩
            by_cases hcs : cur = sl
            · have hd : decide (cur = sl) = true := decide_eq_true hcs
              have HEND := Lib.hid h13
              rw [hd]
              clear h13 hcs hcur
              go_wp2_with fail
              go_roundw
              case rel => exact ⟨k + 1, p1, _, _, cur, by omega, by omega, by go_num, rfl, HEND.out.kp (by simp) Clc.out (calm_crash _ _) (Cfc.out.mono (by omega)) (by have := Hq.out; have := Hq4.out; omega) hn4 hn63⟩
              case measure => simp [intOf]; omega
            · have hd : decide (cur = sl) = false := decide_eq_false hcs
              have hd2 : decide (cur = a) = true := decide_eq_true (hcur.resolve_left hcs)
              have Ct3 := Lib.hid (h13.compare UU.out HH.out (u := lv1) (v := (.slice xA a.length xc)) (x := cur) (y := a) (by simp) (by simp) (by have := live_few Clc.out hn63; omega))
              rw [hd2] at Ct3
              rw [hd]
              clear h13 hcs hcur
              go_wp2_with fail
              refine Ct3.out.mono ?_
              rintro e w14 ⟨rfl, h14⟩
              have HEND := Lib.hid h14
              clear h14
              go_wp2_with fail

              go_roundw
              case rel => exact ⟨k + 1, p1, _, _, cur, by omega, by omega, by go_num, rfl, HEND.out.kp (by simp) Clc.out (calm_crash _ _) (Cfc.out.mono (by omega)) (by have := Hq.out; have := Hq4.out; omega) hn4 hn63⟩
              case measure => simp [intOf]; omega
      · have Csl0 : Hid (∀ W, Below w.heap.size w W → Calls Try.prog 11 #[.slice xA a.length xc] W fun e w' => e = .returned (.bool false) ∧ w' = W) := Lib.hid (fun W hW => by have := Csl.out W hW; rw [decide_eq_false hsl] at this; exact this)
        clear hsl Csl
        go_wp2_with fail
        refine (Csl0.out _ Hb5.out).mono ?_
        rintro e w' ⟨rfl, rfl⟩
        go_wp2_with fail
        go_roundw
        case rel => exact ⟨k + 1, q1, d, j, sl, by omega, by omega, by go_num, rfl, (Hst.out.kp (by simp) Hkp.out.live Hkp.out.calm Hkp.out.fine Hkp.out.seq hn4 hn63).next⟩
        case measure => simp [intOf]; omega
    · have hx : (decide (k < ln) = true ∧ decide ((k : Int) < 30) = false) ∨ decide (k < ln) = false := by
        by_cases h1 : k < ln
        · exact Or.inl ⟨by simp; omega, by simp; omega⟩
        · exact Or.inr (by simp; omega)
      have hbel : Hid (Below w.heap.size w wr) := Lib.hid (by obtain ⟨Z, h1, -, -⟩ := hkp.out; exact h1.bel)
      clear hkp hgo
      rcases hx with ⟨x1, x2⟩ | x1
      all_goals
        go_wp2_with fail
        go_ret
        exact ⟨rfl, hbel.out⟩
end
end Go.Proofs.Ytcgplonnhginiaa
namespace Go.Proofs.Ytcgplonnhginiaa
open Go.RowKit

open Go.ChangeShapes Go.WideShapes Go.ChangeAt
open Go.ChangeMaps (open_string shut_string)

set_option maxRecDepth 100000 in
theorem journalKeeps_lifted (os : Os) (started : os.Started) (H : Type) (enc : TypeId × Value → H) :
    ReturnsInHanded {} Try.checked os 3 .any (Rows.journalKeepsSpec.pre6 enc Try.prog Try.f3 Rows.journalKeepsRow.domain false) (Rows.journalKeepsSpec.post enc Try.prog Try.f3 false true false false) := by
  refine returnsInHanded_of_change_sized (C := Try.checked) own started (by kernel_rfl) Try.func3
    (ChangeSpec.witness6 (enc := enc) (C := Try.checked) false ⟨#[], #[.int .u8 0, .slice none 0 0], []⟩ 8 (by kernel_rfl) (by kernel_rfl) (by kernel_rfl) (by kernel_rfl)) ?_
  intro W base args ds gs before hval0 hW _ hsz _
  have hval : ∀ (j : Nat) t v, Try.f3.params[j]? = some t → args[j]? = some v → Value.okWide Try.prog W .any base t v := hval0
  have hW0 := hW
  obtain ⟨p, q, hA0, hV, _, _, _⟩ := hW
  have hA : DataW.TrodAll enc Try.prog W 0 (fun _ => true) true Try.f3.params.toList args.toList ds p := hA0
  rw [Try.params3] at hA hval hsz
  obtain ⟨v0, vs0, d0, ds0, p0, q0, hargs, rfl, rfl, h0, r0⟩ := trodAll_cons hA
  obtain ⟨v1, vs1, d1, ds1, p1, q1, rfl, rfl, rfl, h1, r1⟩ := trodAll_cons r0
  obtain ⟨rfl, rfl, rfl⟩ := trodAll_nil r1
  obtain rfl : args = #[v0, v1] := by cases args; simp_all
  obtain ⟨n, rfl, rfl, rfl, nw⟩ := open_int Try.underlying5 (hval 0 5 v0 rfl rfl) h0
  have nb := bounds_u8 nw
  obtain ⟨nn, rfl⟩ := Int.eq_ofNat_of_zero_le nb.1
  obtain ⟨lA, ln, lc, l, rfl, hlc, hl63, hin⟩ := open_ans (okWide_slice Try.underlying22 (hval 1 22 v1 rfl rfl)) h1
  obtain ⟨rfl, rfl⟩ := trodVars_none hV
  refine (keeps_walk disk_use journal_ok nn lA ln lc l W (by omega) hl63 hin).mono fun e W' ⟨he, hg⟩ => ?_
  subst he
  exact ⟨_, rfl, law_done (by kernel_rfl) rfl hW0 rfl (by rw [Try.params3]; decide +kernel) hg⟩

set_option maxRecDepth 100000 in
theorem journalKeeps_over : Rows.journalKeepsRow.holds Try.pinned (OpenSpec.ofChange Rows.journalKeepsSpec) :=
  OpenClaim.holds_of_wide 3 Try.f3 rfl rfl rfl rfl rfl rfl rfl ⟨rfl, rfl, rfl, rfl, rfl⟩ rfl rfl rfl rfl rfl (by kernel_rfl) Try.func3 (by kernel_rfl)
    (of_decide_eq_true (by kernel_rfl)) (by unfold Func.isWrapper; first | (rw [if_pos (by decide +kernel)]; kernel_rfl) | (rw [if_neg (by decide +kernel)]; exact ⟨rfl, rfl⟩))
    (fun os started H enc _ => journalKeeps_lifted os started H enc)

set_option maxRecDepth 100000 in
/-- The statement. -/
theorem journalKeeps_holds : Rows.JournalKeepsSaid := journalKeeps_over
#print axioms journalKeeps_holds
end Go.Proofs.Ytcgplonnhginiaa
