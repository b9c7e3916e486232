/- The package disk as it landed: its calls, one by one. -/
import Derived.Test.YtcgplonnhginiaaCom15
import Derived.Test.YtcgplonnhginiaaCom17
import Derived.Test.YtcgplonnhginiaaCom18
import Derived.Test.YtcgplonnhginiaaCom8
import Derived.Test.YtcgplonnhginiaaCom6
import Derived.Test.YtcgplonnhginiaaCom7
import Derived.Test.YtcgplonnhginiaaCom13
import Derived.Test.YtcgplonnhginiaaCom1
import Derived.Deep.QuietTactic
import Derived.BigQuiet
import Derived.WalkSpells
import Derived.OwnWalk
import Derived.Deep.Slices
import Derived.Test.YtcgplonnhginiaaRows
import Derived.WalkKit
import Derived.Lib.Hide
import Derived.Lib.Strings
set_option linter.unusedSimpArgs false
set_option linter.unusedVariables false
namespace Go.Proofs.Ytcgplonnhginiaa
open Go.RowKit Dsk

/-- The disk in memory, all its blocks there. -/
def AtL (w : World) (F : Nat → Prop) (v : Value) (d : D) : Prop := At w F v d ∧ ∀ k, F k → k < w.heap.size

set_option maxRecDepth 100000 in
theorem does_lift {w w' : World} {F : Nat → Prop} {v : Value} {d : D} (hF : ∀ k, F k → k < w.heap.size) (h : Does At w F v d w') : Does AtL w F v d w' :=
  ⟨⟨h.1, fun _ hk => Grow.lt hk hF h.2.size⟩, h.2⟩

set_option maxRecDepth 100000 in
theorem atl_kept : ∀ {w w' F G v d}, AtL w F v d → Kept G w w' → (∀ i, F i → ¬ G i) → AtL w' F v d :=
  fun h k hd => ⟨by
    obtain ⟨⟨b, bm, sv, N, M, pv, e, h⟩, -⟩ := h
    exact ⟨b, bm, sv, N, M, pv, e, h.kept k hd⟩, fun i hi => Nat.lt_of_lt_of_le (h.2 i hi) k.size⟩

set_option maxRecDepth 100000 in
theorem atl_lt : ∀ {w F v d}, AtL w F v d → ∀ k, F k → k < w.heap.size :=
  fun h k hk => h.2 k hk

set_option maxRecDepth 100000 in
theorem atl_ptr : ∀ {w F v d}, AtL w F v d → ∃ p, v = .pointer (some p) :=
  fun h => by
    obtain ⟨⟨b, bm, sv, N, M, pv, e, -⟩, -⟩ := h
    exact ⟨_, e⟩

set_option maxRecDepth 100000 in
theorem atl_new_ok : ∀ (n : Nat) (w : World), 1 ≤ n → n ≤ 4096 → Calls Try.prog 7 #[.int .i64 (n : Int)] w fun e w' => ∃ v, e = .returned (.tuple #[v, .int .i64 0]) ∧ AtL w' (New w w') v (Dsk.new n) ∧ Below w.heap.size w w' :=
  fun n w h1 h2 => (new_ok n w h1 h2).mono (by
    rintro e w' ⟨v, rfl, h, hb⟩
    exact ⟨v, rfl, ⟨h, fun k hk => hk.2⟩, hb⟩)

set_option maxRecDepth 100000 in
theorem atl_new_no : ∀ (n : Int) (w : World), n < 1 ∨ 4096 < n → Calls Try.prog 7 #[.int .i64 n] w fun e w' => e = .returned (.tuple #[.pointer none, .int .i64 2]) ∧ Below w.heap.size w w' :=
  fun n w h => new_no n w h

set_option maxRecDepth 100000 in
theorem atl_write : ∀ {w F v d N}, AtL w F v d → d.Fine N → N ≤ 100000 → ∀ (i : Int) (s : ByteArray), -9223372036854775808 ≤ i → i ≤ 9223372036854775807 → s.size ≤ 9223372036854775807 →
    Calls Try.prog 25 #[v, .int .i64 i, .string s] w fun e w' => e = .returned (.int .i64 (d.write i s).1) ∧ Does AtL w F v (d.write i s).2 w' :=
  fun {w F v d N} h hf hN i s _ _ hs => by
    refine Calls.mono (R := fun e w' => e = .returned (.int .i64 (d.write i s).1) ∧ Does At w F v (d.write i s).2 w') ?_ (fun e w' he => ⟨he.1, does_lift h.2 he.2⟩)
    by_cases hd : ¬ d.down = true → ¬ (i < 0 ∨ (d.S.length : Int) ≤ i) → 64 < s.size
    · exact write_no h.1 i s hs hd
    · have h1 : ¬ d.down = true := fun e => hd (fun h' => absurd e h')
      have h2 : ¬ (i < 0 ∨ (d.S.length : Int) ≤ i) := fun e => hd (fun _ h' => absurd e h')
      have h3 : ¬ 64 < s.size := fun e => hd (fun _ _ => e)
      obtain ⟨k, rfl⟩ : ∃ k : Nat, i = (k : Int) := ⟨i.toNat, by omega⟩
      have hk : k < d.S.length := by omega
      obtain ⟨⟨b, bm, sv, N', M, pv, rfl, h0⟩, -⟩ := h
      have h4 := (hf.at hk).2.2
      exact write_ok h0 hk s (by omega) (by have := hf.calls; omega) hf.armed (by simpa using h1) (by omega)

set_option maxRecDepth 100000 in
theorem atl_read : ∀ {w F v d N}, AtL w F v d → d.Fine N → N ≤ 100000 → ∀ (i : Int), -9223372036854775808 ≤ i → i ≤ 9223372036854775807 →
    Calls Try.prog 22 #[v, .int .i64 i] w fun e w' => e = .returned (.tuple #[.string (d.read i).1, .int .i64 (d.read i).2]) ∧ Does AtL w F v d w' :=
  fun {w F v d N} h hf hN i _ _ => by
    refine Calls.mono (R := fun e w' => e = .returned (.tuple #[.string (d.read i).1, .int .i64 (d.read i).2]) ∧ Does At w F v d w') ?_ (fun e w' he => ⟨he.1, does_lift h.2 he.2⟩)
    by_cases hd : openE d i = 0
    · have h1 : ¬ d.down = true := fun e => by unfold openE at hd; rw [if_pos e] at hd; cases hd
      have h2 : ¬ (i < 0 ∨ (d.S.length : Int) ≤ i) := fun e => by unfold openE at hd; rw [if_neg h1, if_pos e] at hd; cases hd
      obtain ⟨k, rfl⟩ : ∃ k : Nat, i = (k : Int) := ⟨i.toNat, by omega⟩
      have hk : k < d.S.length := by omega
      obtain ⟨⟨b, bm, sv, N', M, pv, rfl, h0⟩, -⟩ := h
      obtain ⟨e1, e2, e3⟩ := hf.at hk
      obtain ⟨s0, t, hst⟩ : ∃ s0 t, d.at k = s0 :: t := by
        cases e : d.at k with
        | nil => rw [e] at e2; cases e2
        | cons a r => exact ⟨a, r, rfl⟩
      have hr : d.read (k : Int) = (last (s0 :: t), 0) := by
        unfold D.read
        rw [if_neg h1, if_neg h2, Int.toNat_natCast, hst]
      rw [hr]
      rw [hst] at e1 e3
      refine (read_ok h0 e1 (by simpa using h1) (by rw [List.length_cons] at e3; omega)).mono ?_
      rintro e w' ⟨rfl, hb⟩
      exact ⟨rfl, ⟨b, bm, sv, N', M, pv, rfl, (h0.kept (Kept.ofBelow hb (fun _ => False)) (fun _ _ h => h)).mono (fun _ hi => Or.inl hi)⟩, Kept.ofBelow hb _⟩
    · exact read_no h.1 i hd

set_option maxRecDepth 100000 in
theorem atl_flush : ∀ {w F v d N}, AtL w F v d → d.Fine N → N ≤ 100000 → Calls Try.prog 26 #[v] w fun e w' => e = .returned (.int .i64 d.flush.1) ∧ Does AtL w F v d.flush.2 w' :=
  fun {w F v d N} h hf hN => by
    refine Calls.mono (R := fun e w' => e = .returned (.int .i64 d.flush.1) ∧ Does At w F v d.flush.2 w') ?_ (fun e w' he => ⟨he.1, does_lift h.2 he.2⟩)
    have hc := hf.calls
    by_cases hq : d.down = true ∨ d.call.down = true
    · exact flush_no h.1 (by omega) hf.armed hq
    · have h1 : ¬ d.down = true := fun e => hq (Or.inl e)
      have h2 : ¬ d.call.down = true := fun e => hq (Or.inr e)
      obtain ⟨⟨b, bm, sv, N', M, pv, rfl, h0⟩, hF⟩ := h
      have e : d.flush = (0, ⟨d.call.S.map fun l => [last l], d.call.calls, d.call.armed, d.call.down⟩) := by
        unfold D.flush
        rw [if_neg h1, if_neg h2]
        rfl
      rw [e]
      exact flush_ok h0 hF (by omega) hf.armed (by simpa using h1) (by simpa using h2) (fun l hl => by have := (hf.each l hl).2; omega)

set_option maxRecDepth 100000 in
theorem atl_arm : ∀ {w F v d N}, AtL w F v d → d.Fine N → N ≤ 100000 → ∀ (n : Int), -9223372036854775808 ≤ n → n ≤ 9223372036854775807 →
    Calls Try.prog 12 #[v, .int .i64 n] w fun e w' => e = .returned (.tuple #[]) ∧ Does AtL w F v (d.arm n) w' :=
  fun {w F v d N} h hf hN n h1 h2 => (arm_any h.1 n h1 h2).mono (fun e w' he => ⟨he.1, does_lift h.2 he.2⟩)

set_option maxRecDepth 100000 in
theorem atl_crash : ∀ {w F G v d N kv ks}, AtL w F v d → d.Fine N → N ≤ 100000 → Cells w G kv (ks.map (Value.int .i64)) → (∀ i, G i → ¬ F i) → Ints64 ks →
    Calls Try.prog 16 #[v, kv] w fun e w' => e = .returned (.tuple #[]) ∧ Does AtL w F v (d.crash ks) w' :=
  fun {w F G v d N kv ks} h hf hN hkv hG hks => by
    refine Calls.mono (R := fun e w' => e = .returned (.tuple #[]) ∧ Does At w F v (d.crash ks) w') ?_ (fun e w' he => ⟨he.1, does_lift h.2 he.2⟩)
    obtain ⟨⟨b, bm, sv, N', M, pv, rfl, h0⟩, hF⟩ := h
    exact crash_ok h0 hF hkv hG hks (fun l hl => by have := (hf.each l hl).2; omega)

set_option maxRecDepth 100000 in
theorem atl_len : ∀ {w F v d N}, AtL w F v d → d.Fine N → N ≤ 100000 → Calls Try.prog 47 #[v] w fun e w' => e = .returned (.int .i64 (d.S.length : Int)) ∧ Does AtL w F v d w' :=
  fun h hf hN => (len_any h.1).mono (fun e w' he => ⟨he.1, does_lift h.2 he.2⟩)

end Go.Proofs.Ytcgplonnhginiaa
/- The package disk as it landed answers as the layers above need it. -/
set_option linter.unusedSimpArgs false
set_option linter.unusedVariables false
namespace Go.Proofs.Ytcgplonnhginiaa
open Go.RowKit Dsk

set_option maxRecDepth 100000 in
theorem disk_use : DiskUse AtL where
  kept := atl_kept
  lt := atl_lt
  ptr := atl_ptr
  new_ok := atl_new_ok
  write := atl_write
  read := atl_read
  flush := atl_flush
  arm := atl_arm
  crash := fun h hf hN hk hG h1 h2 => atl_crash h hf hN hk hG ⟨h1, h2⟩
end Go.Proofs.Ytcgplonnhginiaa
/- The landed journal: what only looks at the disk: usable, halfSectors, halfBytes, sectorOf. -/
set_option linter.unusedSimpArgs false
set_option linter.unusedVariables false
namespace Go.Proofs.Ytcgplonnhginiaa
open Go.RowKit Dsk Jnl

section
variable {w : World} {F : Nat → Prop} {dv : Value} {d : D} {n : Nat}

set_option maxRecDepth 100000 in
theorem len_same (h : AtL w F dv d) (hn : d.S.length = n) : Calls Try.prog 47 #[dv] w fun e w' => e = .returned (.int .i64 (n : Int)) ∧ w = w' := by
  obtain ⟨⟨b, bm, sv, N, M, pv, rfl, h⟩, -⟩ := h
  obtain ⟨g, cap, rfl, hg⟩ := h.safeForm
  obtain ⟨c0, -, -, -, -, -, -, -⟩ := h.facts
  rw [hn] at c0
  clear h hg
  go_enter Try.func47, Try.ntmps47
  go_wp2_with fail
  go_ret
  exact ⟨rfl, rfl⟩

set_option maxRecDepth 100000 in
theorem atl_addr (h : AtL w F dv d) : ∃ b, dv = .pointer (some ⟨b, 0, none⟩) := by
  obtain ⟨⟨b, bm, sv, N, M, pv, rfl, h⟩, -⟩ := h
  exact ⟨b, rfl⟩

set_option maxRecDepth 100000 in
theorem usable_none (w : World) : Calls Try.prog 28 #[.pointer none] w fun e w' => e = .returned (.int .i64 1) ∧ w = w' := by
  go_enter Try.func28, Try.ntmps28
  go_wp2_with fail
  go_ret
  exact ⟨rfl, rfl⟩

set_option maxRecDepth 100000 in
theorem usable_few (h : AtL w F dv d) (hn : d.S.length < 4) : Calls Try.prog 28 #[dv] w fun e w' => e = .returned (.int .i64 2) ∧ w = w' := by
  have HL := Lib.hid (len_same h rfl)
  obtain ⟨b, rfl⟩ := atl_addr h
  have hb : decide ((d.S.length : Int) < 4) = true := decide_eq_true (by omega)
  generalize d.S.length = n at *
  clear h hn
  go_enter Try.func28, Try.ntmps28
  go_wp2_with (go_at_call 47; with_reducible refine HL.out.mono ?_; rintro e w' ⟨rfl, rfl⟩)
  go_ret
  exact ⟨rfl, rfl⟩

set_option maxRecDepth 100000 in
theorem usable_ok (h : AtL w F dv d) (hn : 4 ≤ d.S.length) : Calls Try.prog 28 #[dv] w fun e w' => e = .returned (.int .i64 0) ∧ w = w' := by
  have HL := Lib.hid (len_same h rfl)
  obtain ⟨b, rfl⟩ := atl_addr h
  have hb : decide ((d.S.length : Int) < 4) = false := decide_eq_false (by omega)
  generalize d.S.length = n at *
  clear h hn
  go_enter Try.func28, Try.ntmps28
  go_wp2_with (go_at_call 47; with_reducible refine HL.out.mono ?_; rintro e w' ⟨rfl, rfl⟩)
  go_ret
  exact ⟨rfl, rfl⟩

set_option maxRecDepth 100000 in
theorem half_sectors (h : AtL w F dv d) (hn : d.S.length = n) (h4 : 4 ≤ n) (hm : n ≤ 4096) : Calls Try.prog 57 #[dv] w fun e w' => e = .returned (.int .i64 (hof n : Int)) ∧ w = w' := by
  have HL := Lib.hid (len_same h hn)
  have hq : ((n : Int) - 2).tdiv 2 = (hof n : Int) := by
    rw [Int.tdiv_eq_ediv_of_nonneg (by omega)]
    unfold hof; omega
  have h4' : (4 : Int) ≤ (n : Int) := by omega
  have hm' : (n : Int) ≤ 4096 := by omega
  have hh : (hof n : Int) ≤ 4096 := by unfold hof; omega
  clear h hn h4 hm
  go_enter Try.func57, Try.ntmps57
  go_wp2_with (go_at_call 47; with_reducible refine HL.out.mono ?_; rintro e w' ⟨rfl, rfl⟩)
  go_ret
  exact ⟨rfl, rfl⟩

set_option maxRecDepth 100000 in
theorem half_bytes (h : AtL w F dv d) (hn : d.S.length = n) (h4 : 4 ≤ n) (hm : n ≤ 4096) : Calls Try.prog 39 #[dv] w fun e w' => e = .returned (.int .i64 ((64 * hof n : Nat) : Int)) ∧ w = w' := by
  have HL := Lib.hid (half_sectors h hn h4 hm)
  have hh : (hof n : Int) ≤ 4096 := by unfold hof; omega
  have hq : (hof n : Int) * 64 = ((64 * hof n : Nat) : Int) := by push_cast; omega
  clear h hn h4 hm
  go_enter Try.func39, Try.ntmps39
  go_wp2_with (go_at_call 57; with_reducible refine HL.out.mono ?_; rintro e w' ⟨rfl, rfl⟩)
  go_ret
  exact ⟨rfl, rfl⟩

set_option maxRecDepth 100000 in
theorem sector_of (h : AtL w F dv d) (hn : d.S.length = n) (h4 : 4 ≤ n) (hm : n ≤ 4096) {half at' : Nat} (hhalf : half ≤ 1) (hat : at' ≤ 64 * hof n) :
    Calls Try.prog 50 #[dv, .int .i64 (half : Int), .int .i64 (at' : Int)] w fun e w' => e = .returned (.int .i64 ((2 + half * hof n + at' / 64 : Nat) : Int)) ∧ w = w' := by
  have HL := Lib.hid (half_sectors h hn h4 hm)
  have hh : hof n ≤ 4096 := by unfold hof; omega
  have hmul : half * hof n ≤ hof n := half_base hhalf
  obtain ⟨k, hk⟩ : ∃ k, k = half * hof n := ⟨_, rfl⟩
  have hq : (half : Int) * (hof n : Int) = (k : Int) := by rw [hk]; push_cast; rfl
  have hd : (at' : Int).tdiv 64 = ((at' / 64 : Nat) : Int) := by
    rw [Int.tdiv_eq_ediv_of_nonneg (by omega)]; omega
  have hfin : Hid ((2 : Int) + (k : Int) + ((at' / 64 : Nat) : Int) = ((2 + half * hof n + at' / 64 : Nat) : Int)) := Lib.hid (by rw [← hk]; push_cast; rfl)
  have hk1 : (k : Int) ≤ 4096 := by omega
  have hd1 : ((at' / 64 : Nat) : Int) ≤ 4096 := by omega
  have ha1 : (at' : Int) ≤ 262144 := by omega
  clear h hn h4 hm hhalf hat hmul hk
  go_enter Try.func50, Try.ntmps50
  go_wp2_with (go_at_call 57; with_reducible refine HL.out.mono ?_; rintro e w' ⟨rfl, rfl⟩)
  go_ret
  exact ⟨by rw [← hfin.out]; rfl, rfl⟩
end
end Go.Proofs.Ytcgplonnhginiaa
/- The document's own answer: Second. -/
namespace Go.Proofs.Ytcgplonnhginiaa
open Go.RowKit

def SecondIs (t : List UInt8) (k : Nat) (x : Int) (w : World) (e : Ending) (w' : World) : Prop := e = .returned (.tuple #[.string ⟨t.toArray⟩, .int .i64 k, .int .i64 x]) ∧ w = w'

end Go.Proofs.Ytcgplonnhginiaa
/- The document's own answers of layer 4: First. -/
namespace Go.Proofs.Ytcgplonnhginiaa
open Go.RowKit

def FirstIs (t : List UInt8) (n : Nat) (x : Int) (w : World) (e : Ending) (w' : World) : Prop := e = .returned (.tuple #[.string (mk t), .int .i64 n, .int .i64 x]) ∧ Below w.heap.size w w'

set_option maxRecDepth 100000 in
theorem mk_inj {a b : List UInt8} (h : mk a = mk b) : a = b := by rw [← mk_data a, h, mk_data]

set_option maxRecDepth 100000 in
/-- What the text at the front says, where there is none. -/
theorem second_bad (s : List UInt8) (h : (Leb.second s).2.2 ≠ 0) : (Leb.second s).1 = [] ∧ (Leb.second s).2.1 = 0 := by
  unfold Leb.second at h ⊢
  split
  · split
    · exact ⟨rfl, rfl⟩
    · rename_i h1 h2
      rw [if_pos h1, if_neg h2] at h
      exact absurd rfl h
  · exact ⟨rfl, rfl⟩

end Go.Proofs.Ytcgplonnhginiaa
/- The document's own answers of layer 4: Read. -/
namespace Go.Proofs.Ytcgplonnhginiaa
open Go.RowKit

def sizeIn : Value → Nat | .string b => b.size | _ => 0

/-- What has been read, and what is left. -/
def Rest (S : List UInt8) (d : List (List UInt8)) (r : List UInt8) : Prop := d.length + r.length ≤ S.length ∧ Frm.read S = if (Frm.read r).2 = 0 then (d ++ (Frm.read r).1, 0) else ([], (Frm.read r).2)

set_option maxRecDepth 100000 in
theorem rest_start (S : List UInt8) : Rest S [] S := ⟨by simp, by
  by_cases h : (Frm.read S).2 = 0
  · rw [if_pos h, List.nil_append, ← h]
  · rw [if_neg h, ← Frm.read_none S h]⟩

set_option maxRecDepth 100000 in
theorem rest_end {S : List UInt8} {d : List (List UInt8)} (h : Rest S d []) : Frm.read S = (d, 0) := by
  have := h.2
  rw [show Frm.read [] = ([], 0) from rfl] at this
  simpa using this

set_option maxRecDepth 100000 in
theorem rest_bad {S r : List UInt8} {d : List (List UInt8)} (h : Rest S d r) (hr : r ≠ []) (hx : (Frm.first r).2.2 ≠ 0) : Frm.read S = ([], (Frm.first r).2.2) := by
  have e := Frm.read_step r hr
  rw [if_neg hx] at e
  have := h.2
  rw [e] at this
  rw [this, if_neg hx]

set_option maxRecDepth 100000 in
theorem rest_step {S r : List UInt8} {d : List (List UInt8)} (h : Rest S d r) (hr : r ≠ []) (hx : (Frm.first r).2.2 = 0) : Rest S (d ++ [(Frm.first r).1]) (r.drop (Frm.first r).2.1) := by
  have e := Frm.read_step r hr
  rw [if_pos hx] at e
  have hn := (Frm.first_only r (Frm.first r).1 (Frm.first r).2.1 (by rw [← hx])).2.2.2
  have hr0 : 0 < r.length := List.length_pos_iff.2 hr
  refine ⟨by have := h.1; rw [List.length_append, List.length_drop]; simp; omega, ?_⟩
  rw [h.2, e]
  by_cases hz : (Frm.read (r.drop (Frm.first r).2.1)).2 = 0
  · rw [if_pos hz, if_pos rfl, if_pos hz]; simp
  · rw [if_neg hz, if_neg hz, if_neg hz]

end Go.Proofs.Ytcgplonnhginiaa
/- What the package frame is to answer (FrameOk); two lists that are one; lists that are not far too long; a list that came in. -/
namespace Go.Proofs.Ytcgplonnhginiaa
open Go.ChangeShapes Go.WideShapes Go.ChangeAt Go.RowKit Go.Deep

/-- What the package is to answer. -/
structure FrameOk : Prop where
  lay : ∀ {w : World} {F : Nat → Prop} {v : Value} {l : List (List UInt8)}, Cells w F v (texts l) → l.length ≤ 100000 → (∀ t ∈ l, t.length ≤ 16777216) →
    Calls Try.prog 53 #[v] w fun e w' => e = .returned (.tuple (if (Frm.all l).length ≤ 65536 then #[.string (mk (Frm.all l)), .int .i64 0] else #[.string (mk []), .int .i64 4])) ∧ Below w.heap.size w w'
  size : ∀ {w : World} {F : Nat → Prop} {v : Value} {l : List (List UInt8)}, Cells w F v (texts l) → l.length ≤ 100000 → (∀ t ∈ l, t.length ≤ 16777216) →
    Calls Try.prog 69 #[v] w fun e w' => e = .returned (.int .i64 (if (Frm.all l).length ≤ 65536 then ((Frm.all l).length : Int) else 65537)) ∧ Below w.heap.size w w'
  first : ∀ (s : ByteArray) (w : World), s.size ≤ 200000 → Calls Try.prog 51 #[.string s] w (FirstIs (Frm.first s.data.toList).1 (Frm.first s.data.toList).2.1 (Frm.first s.data.toList).2.2 w)
  read : ∀ (s : ByteArray) (w : World), s.size ≤ 200000 →
    Calls Try.prog 32 #[.string s] w fun e w' => ∃ v, e = .returned (.tuple #[v, .int .i64 (Frm.read s.data.toList).2]) ∧ Cells w' (NewIn w w') v (texts (Frm.read s.data.toList).1) ∧ Below w.heap.size w w'

/-- Records that are not far too long. -/
def Light (l : List (List UInt8)) : Prop := (∀ t ∈ l, t.length ≤ 300) ∧ l.length ≤ 40
instance (l : List (List UInt8)) : Decidable (Light l) := inferInstanceAs (Decidable (_ ∧ _))

end Go.Proofs.Ytcgplonnhginiaa
/- The small methods of the reader: Err, Left, fail, take, End. -/
namespace Go.Proofs.Ytcgplonnhginiaa
open Go.RowKit

/-- The reader at block b: what is left of its bytes, and its error. -/
def Rd (w : World) (b : Nat) (r : ByteArray) (e : Int) : Prop := Row w b 119 #[.string r, .int .i64 e]

set_option maxRecDepth 100000 in
theorem err_nil (w : World) : Calls Try.prog 65 #[.pointer none] w fun e w' => e = .returned (.int .i64 1) ∧ w = w' := by
  go_enter Try.func65, Try.ntmps65
  go_wp2
  go_ret
  exact ⟨rfl, rfl⟩

set_option maxRecDepth 100000 in
theorem err_any {w : World} {b : Nat} {r : ByteArray} {e0 : Int} (h : Rd w b r e0) :
    Calls Try.prog 65 #[.pointer (some ⟨b, 0, none⟩)] w fun e w' => e = .returned (.int .i64 e0) ∧ w = w' := by
  have c1 : w.cell? ⟨b, 1, none⟩ = some (.int .i64 e0) := Row.at h 1
  clear h
  go_enter Try.func65, Try.ntmps65
  go_wp2
  go_ret
  exact ⟨rfl, rfl⟩

set_option maxRecDepth 100000 in
theorem left_nil (w : World) : Calls Try.prog 66 #[.pointer none] w fun e w' => e = .returned (.int .i64 0) ∧ w = w' := by
  go_enter Try.func66, Try.ntmps66
  go_wp2
  go_ret
  exact ⟨rfl, rfl⟩

set_option maxRecDepth 100000 in
theorem left_any {w : World} {b : Nat} {r : ByteArray} {e0 : Int} (h : Rd w b r e0) :
    Calls Try.prog 66 #[.pointer (some ⟨b, 0, none⟩)] w fun e w' => e = .returned (.int .i64 r.size) ∧ w = w' := by
  have c0 : w.cell? ⟨b, 0, none⟩ = some (.string r) := Row.at h 0
  clear h
  go_enter Try.func66, Try.ntmps66
  go_wp2
  go_ret
  exact ⟨rfl, rfl⟩

set_option maxRecDepth 100000 in
theorem fail_any {w : World} {b : Nat} {r : ByteArray} {e0 : Int} (h : Rd w b r e0) (x : Int) :
    Calls Try.prog 80 #[.pointer (some ⟨b, 0, none⟩), .int .i64 x] w fun e w' => e = .returned (.tuple #[]) ∧ Rd w' b ⟨#[]⟩ x ∧ w.grownBy w' (some b) := by
  have c0 : w.cell? ⟨b, 0, none⟩ = some (.string r) := Row.at h 0
  have c1 : w.cell? ⟨b, 1, none⟩ = some (.int .i64 e0) := Row.at h 1
  have f0 := Row.free h 0
  have f1 := Row.free h 1
  have k1 : Row ((w.setCell ⟨b, 0, none⟩ (.string ⟨#[]⟩)).setCell ⟨b, 1, none⟩ (.int .i64 x)) b 119 #[.string ⟨#[]⟩, .int .i64 x] := by
    simpa using (Row.stored h 0 (.string ⟨#[]⟩)).stored 1 (.int .i64 x)
  have K1 := Lib.hid k1
  clear k1 h
  go_enter Try.func80, Try.ntmps80
  go_wp2
  go_end0
  exact ⟨rfl, K1.out, gb_store (gb_store (gb_refl _ _) 0 _) 1 _⟩

set_option maxRecDepth 100000 in
theorem take_none {w : World} {b : Nat} {r : ByteArray} {e0 : Int} (h : Rd w b r e0) (h0 : r.size = 0) :
    Calls Try.prog 79 #[.pointer (some ⟨b, 0, none⟩)] w fun e w' => e = .returned (.tuple #[.int .u8 0, .bool false]) ∧ w = w' := by
  obtain rfl : r = ⟨#[]⟩ := ByteArray.ext (Array.eq_empty_of_size_eq_zero h0)
  have c0 : w.cell? ⟨b, 0, none⟩ = some (.string ⟨#[]⟩) := Row.at h 0
  clear h h0
  go_enter Try.func79, Try.ntmps79
  go_wp2
  go_ret2
  exact ⟨rfl, rfl⟩

set_option maxRecDepth 100000 in
theorem take_some {w : World} {b : Nat} {r : ByteArray} {e0 : Int} (h : Rd w b r e0) (h0 : 0 < r.size) (hm : r.size ≤ 281474976710656) :
    Calls Try.prog 79 #[.pointer (some ⟨b, 0, none⟩)] w fun e w' =>
      e = .returned (.tuple #[.int .u8 (r[0]'h0).toNat, .bool true]) ∧ Rd w' b (r.extract 1 r.size) e0 ∧ w.grownBy w' (some b) := by
  have c0 : w.cell? ⟨b, 0, none⟩ = some (.string r) := Row.at h 0
  have f0 := Row.free h 0
  have k1 : Row (w.setCell ⟨b, 0, none⟩ (.string (r.extract 1 r.size))) b 119 #[.string (r.extract 1 r.size), .int .i64 e0] := by
    simpa using Row.stored h 0 (.string (r.extract 1 r.size))
  have K1 := Lib.hid k1
  clear k1 h
  have hne : r.toList.isEmpty = false := by
    rw [List.isEmpty_eq_false_iff, Lib.toList_data]
    intro hh
    have := Lib.size_eq r
    rw [hh] at this
    simp only [List.length_nil] at this
    omega
  go_enter Try.func79, Try.ntmps79
  go_wp2
  go_ret2
  exact ⟨rfl, K1.out, gb_store (gb_refl _ _) 0 _⟩

/-- What End answers, by what is left and by the error. -/
def endOf (n : Nat) (e : Int) : Int := if e = 0 then (if n = 0 then 0 else 6) else e

end Go.Proofs.Ytcgplonnhginiaa
