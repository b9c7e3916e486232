/- The landed disk: the calls that only look, Arm, the count of calls. -/
import Derived.Test.YtdagdmfockibfaaDiskAt
import Derived.RegionTactic
import Derived.WalkLawsBesides
set_option linter.unusedSimpArgs false
set_option linter.unusedVariables false
namespace Go.Proofs.Ytdagdmfockibfaa
open Go.RowKit Dsk

theorem does_same {w : World} {F : Nat → Prop} {v : Value} {d : D} (h : At w F v d) : Does At w F v d w := by
  obtain ⟨b, bm, sv, N, M, pv, e, h⟩ := h
  exact ⟨⟨b, bm, sv, N, M, pv, e, h.mono (fun _ hi => Or.inl hi)⟩, Kept.refl _ _⟩

section
variable {w : World} {F : Nat → Prop} {b bm : Nat} {sv : Value} {N : Nat} {M : DataW Value} {pv : Nat → Value} {d : D}

set_option maxRecDepth 100000 in
theorem up_any (h : w.cell? ⟨b, 4, none⟩ = some (.bool d.down)) : Calls Try.prog 33 #[.pointer (some ⟨b, 0, none⟩)] w fun e w' => e = .returned (.int .i64 (if d.down = true then 12 else 0)) ∧ w = w' := by
  cases hd : d.down
  all_goals
    rw [hd] at h
    go_enter Try.func33, Try.ntmps33
    go_wp2_with fail
    go_ret
    exact ⟨rfl, rfl⟩

def openE (d : D) (i : Int) : Int := if d.down = true then 12 else if i < 0 ∨ (d.S.length : Int) ≤ i then 3 else 0

set_option maxRecDepth 100000 in
theorem open_any (h : DAt w F b bm sv N M pv d) (i : Int) : Calls Try.prog 31 #[.pointer (some ⟨b, 0, none⟩), .int .i64 i] w fun e w' => e = .returned (.int .i64 (openE d i)) ∧ w = w' := by
  obtain ⟨g, cap, rfl, hg⟩ := h.safeForm
  obtain ⟨c0, -, -, -, c4, -, -, -⟩ := h.facts
  have hup := up_any (b := b) c4
  have hlen := h.few
  generalize hS : d.S.length = n at *
  have Hup := Lib.hid hup
  unfold openE
  rw [hS]
  clear h hup hS
  by_cases hd : d.down = true
  · have e : d.down = true := hd
    rw [if_pos hd] at Hup ⊢
    clear hd e
    go_enter Try.func31, Try.ntmps31
    go_wp2_with (go_at_call 33; with_reducible refine Hup.out.mono ?_; rintro e w' ⟨rfl, rfl⟩)
    go_ret
    exact ⟨rfl, rfl⟩
  · rw [if_neg hd] at Hup ⊢
    clear hd
    by_cases hi : i < 0
    · rw [if_pos (Or.inl hi)]
      have hb : decide (i < 0) = true := by simpa using hi
      go_enter Try.func31, Try.ntmps31
      go_wp2_with (go_at_call 33; with_reducible refine Hup.out.mono ?_; rintro e w' ⟨rfl, rfl⟩)
      go_ret
      exact ⟨rfl, rfl⟩
    · have hb : decide (i < 0) = false := by simpa using hi
      by_cases hi2 : (n : Int) ≤ i
      · rw [if_pos (Or.inr hi2)]
        have hb2 : decide (i ≥ (n : Int)) = true := by simpa using hi2
        clear hi
        go_enter Try.func31, Try.ntmps31
        go_wp2_with (go_at_call 33; with_reducible refine Hup.out.mono ?_; rintro e w' ⟨rfl, rfl⟩)
        go_ret
        exact ⟨rfl, rfl⟩
      · rw [if_neg (fun e => by omega)]
        have hb2 : decide (i ≥ (n : Int)) = false := by simpa using hi2
        clear hi
        go_enter Try.func31, Try.ntmps31
        go_wp2_with (go_at_call 33; with_reducible refine Hup.out.mono ?_; rintro e w' ⟨rfl, rfl⟩)
        go_ret
        exact ⟨rfl, rfl⟩

set_option maxRecDepth 100000 in
theorem down_any {v : Value} (h : At w F v d) : Calls Try.prog 11 #[v] w fun e w' => e = .returned (.bool d.down) ∧ Does At w F v d w' := by
  have hs := does_same h
  obtain ⟨b, bm, sv, N, M, pv, rfl, h⟩ := h
  obtain ⟨-, -, -, -, c4, -, -, -⟩ := h.facts
  have Hs := Lib.hid hs
  clear h hs
  go_enter Try.func11, Try.ntmps11
  go_wp2_with fail
  go_ret
  exact ⟨rfl, Hs.out⟩

set_option maxRecDepth 100000 in
theorem len_any {v : Value} (h : At w F v d) : Calls Try.prog 8 #[v] w fun e w' => e = .returned (.int .i64 (d.S.length : Int)) ∧ Does At w F v d w' := by
  have hs := does_same h
  obtain ⟨b, bm, sv, N, M, pv, rfl, h⟩ := h
  obtain ⟨g, cap, rfl, hg⟩ := h.safeForm
  obtain ⟨c0, -, -, -, -, -, -, -⟩ := h.facts
  have Hs := Lib.hid hs
  clear h hs
  go_enter Try.func8, Try.ntmps8
  go_wp2_with fail
  go_ret
  exact ⟨rfl, Hs.out⟩

set_option maxRecDepth 100000 in
theorem calls_any {v : Value} (h : At w F v d) : Calls Try.prog 12 #[v] w fun e w' => e = .returned (.int .i64 (d.calls : Int)) ∧ Does At w F v d w' := by
  have hs := does_same h
  obtain ⟨b, bm, sv, N, M, pv, rfl, h⟩ := h
  obtain ⟨-, -, c2, -, -, -, -, -⟩ := h.facts
  have Hs := Lib.hid hs
  clear h hs
  go_enter Try.func12, Try.ntmps12
  go_wp2_with fail
  go_ret
  exact ⟨rfl, Hs.out⟩

theorem DAt.does (h : DAt w F b bm sv N M pv d) {w' : World} {c a : Nat} {q : Bool} (hr : Row w' b 61 (dcells sv bm ⟨d.S, c, a, q⟩)) (hg : w.grownBy w' (some b)) (hc : d.calls ≤ c) :
    Does At w F (.pointer (some ⟨b, 0, none⟩)) ⟨d.S, c, a, q⟩ w' :=
  ⟨⟨b, bm, sv, N, M, pv, rfl, (h.turn hr hg hc).mono (fun _ hi => Or.inl hi)⟩, Kept.ofGrown hg (fun i e => by injection e with e; subst e; exact h.inB)⟩

set_option maxRecDepth 100000 in
theorem arm_any {v : Value} (h : At w F v d) (n : Int) (h1 : -9223372036854775808 ≤ n) (h2 : n ≤ 9223372036854775807) :
    Calls Try.prog 24 #[v, .int .i64 n] w fun e w' => e = .returned (.tuple #[]) ∧ Does At w F v (d.arm n) w' := by
  obtain ⟨b, bm, sv, N, M, pv, rfl, h⟩ := h
  obtain ⟨-, -, -, c3, -, -, f3, -⟩ := h.facts
  have fin : Hid (∀ k : Int, k = ((n.toNat : Nat) : Int) → Does At w F (.pointer (some ⟨b, 0, none⟩)) (d.arm n) (w.setCell ⟨b, 3, none⟩ (.int .i64 k))) := Lib.hid (fun k e => by
    subst e
    exact h.does (h.blk.stored 3 _) (gb_store (gb_refl _ _) 3 _) (Nat.le_refl _))
  clear h
  go_enter Try.func24, Try.ntmps24
  go_wp2_with fail
  all_goals
    go_end0
    exact ⟨rfl, fin.out _ (by omega)⟩
end

/-! ### A nil disk -/
section
variable (w : World)
set_option maxRecDepth 100000 in
theorem nil_up : Calls Try.prog 33 #[.pointer none] w fun e w' => e = .returned (.int .i64 1) ∧ w = w' := by
  go_enter Try.func33, Try.ntmps33
  go_wp2_with fail
  go_ret
  exact ⟨rfl, rfl⟩

set_option maxRecDepth 100000 in
theorem nil_open (i : Int) : Calls Try.prog 31 #[.pointer none, .int .i64 i] w fun e w' => e = .returned (.int .i64 1) ∧ w = w' := by
  go_enter Try.func31, Try.ntmps31
  go_wp2_with (go_at_call 33; with_reducible refine (nil_up _).mono ?_; rintro e w' ⟨rfl, rfl⟩)
  go_ret
  exact ⟨rfl, rfl⟩

set_option maxRecDepth 100000 in
theorem nil_write (i : Int) (s : ByteArray) : Calls Try.prog 22 #[.pointer none, .int .i64 i, .string s] w fun e w' => e = .returned (.int .i64 1) ∧ Below w.heap.size w w' := by
  go_enter Try.func22, Try.ntmps22
  go_wp2_with (go_at_call 31; with_reducible refine (nil_open _ _).mono ?_; rintro e w' ⟨rfl, rfl⟩)
  go_ret
  exact ⟨rfl, Below.refl _ _⟩

set_option maxRecDepth 100000 in
theorem nil_read (i : Int) : Calls Try.prog 18 #[.pointer none, .int .i64 i] w fun e w' => e = .returned (.tuple #[.string ⟨#[]⟩, .int .i64 1]) ∧ Below w.heap.size w w' := by
  go_enter Try.func18, Try.ntmps18
  go_wp2_with (go_at_call 31; with_reducible refine (nil_open _ _).mono ?_; rintro e w' ⟨rfl, rfl⟩)
  go_ret2
  exact ⟨rfl, Below.refl _ _⟩

set_option maxRecDepth 100000 in
theorem nil_flush : Calls Try.prog 21 #[.pointer none] w fun e w' => e = .returned (.int .i64 1) ∧ Below w.heap.size w w' := by
  go_enter Try.func21, Try.ntmps21
  go_wp2_with (go_at_call 33; with_reducible refine (nil_up _).mono ?_; rintro e w' ⟨rfl, rfl⟩)
  go_ret
  exact ⟨rfl, Below.refl _ _⟩

set_option maxRecDepth 100000 in
theorem nil_arm (n : Int) : Calls Try.prog 24 #[.pointer none, .int .i64 n] w fun e w' => e = .returned (.tuple #[]) ∧ Below w.heap.size w w' := by
  go_enter Try.func24, Try.ntmps24
  go_wp2_with fail
  go_end0
  exact ⟨rfl, Below.refl _ _⟩

set_option maxRecDepth 100000 in
theorem nil_crash (kv : Value) : Calls Try.prog 16 #[.pointer none, kv] w fun e w' => e = .returned (.tuple #[]) ∧ Below w.heap.size w w' := by
  go_enter Try.func16, Try.ntmps16
  go_wp2_with fail
  refine bodyPost_ret (results_none rfl _ _ _) rfl ?_
  exact ⟨rfl, Below.refl _ _⟩

set_option maxRecDepth 100000 in
theorem nil_down : Calls Try.prog 11 #[.pointer none] w fun e w' => e = .returned (.bool true) ∧ Below w.heap.size w w' := by
  go_enter Try.func11, Try.ntmps11
  go_wp2_with fail
  go_ret
  exact ⟨rfl, Below.refl _ _⟩

set_option maxRecDepth 100000 in
theorem nil_len : Calls Try.prog 8 #[.pointer none] w fun e w' => e = .returned (.int .i64 0) ∧ Below w.heap.size w w' := by
  go_enter Try.func8, Try.ntmps8
  go_wp2_with fail
  go_ret
  exact ⟨rfl, Below.refl _ _⟩

set_option maxRecDepth 100000 in
theorem nil_calls : Calls Try.prog 12 #[.pointer none] w fun e w' => e = .returned (.int .i64 0) ∧ Below w.heap.size w w' := by
  go_enter Try.func12, Try.ntmps12
  go_wp2_with fail
  go_ret
  exact ⟨rfl, Below.refl _ _⟩

set_option maxRecDepth 100000 in
theorem nil_dirty : Calls Try.prog 14 #[.pointer none] w fun e w' => ∃ A c, e = .returned (.slice A 0 c) ∧ Below w.heap.size w w' := by
  go_enter Try.func14, Try.ntmps14
  go_wp2_with fail
  go_ret
  exact ⟨_, _, rfl, Below.refl _ _⟩

set_option maxRecDepth 100000 in
theorem nil_copy : Calls Try.prog 23 #[.pointer none] w fun e w' => e = .returned (.pointer none) ∧ Below w.heap.size w w' := by
  go_enter Try.func23, Try.ntmps23
  go_wp2_with fail
  go_ret
  exact ⟨rfl, Below.refl _ _⟩
end
end Go.Proofs.Ytdagdmfockibfaa
