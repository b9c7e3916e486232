/- Of nothing nothing is read: LebNone's statement holds, whatever the number. -/
import Derived.Test.YtnjmdbgpabekaaaAwake
import Derived.Test.YtnjmdbgpabekaaaFrame
namespace Go.Proofs.Ytnjmdbgpabekaaa
open Go.RowKit

theorem lay_one (n : Int) (hn : n < 9223372036854775808) (w : World) :
    Calls Try.prog 10 #[.slice (some ⟨w.heap.size, 0, none⟩) 1 1] (w.alloc (.cells #[.int .i64 n, .string ⟨#[]⟩, .bool false] 25)) fun e w' =>
      (∃ s, e = .returned (.tuple #[.string s, .int .i64 (if n < 0 then 3 else 0)])) ∧ Below w.heap.size w w' := by
  have hr := Row.made w 25 #[.int .i64 n, .string ⟨#[]⟩, .bool false]
  have h : FieldsAt (w.alloc (.cells #[.int .i64 n, .string ⟨#[]⟩, .bool false] 25)) w.heap.size 0 [⟨n, ⟨#[]⟩, false⟩] := by
    intro i f hf
    rw [hr.at, hr.at, hr.at]
    match i, hf with
    | 0, hf => simp at hf; subst hf; exact ⟨rfl, rfl, rfl⟩
    | (j + 1), hf => simp at hf
  have hfit : Fits [⟨n, ⟨#[]⟩, false⟩] := by
    intro i f hf
    match i, hf with
    | 0, hf => simp at hf; subst hf; exact ⟨by simpa [Fl.head, numOf] using hn, by simp [Fl.body, strOf, ByteArray.size]⟩
    | (j + 1), hf => simp at hf
  refine (lay_any (cap := 1) h (by simp) (by simp) hfit).mono ?_
  rintro e w' ⟨rfl, hb⟩
  have he : (layOf [⟨n, ⟨#[]⟩, false⟩]).2 = if n < 0 then 3 else 0 := by
    have hl := (Leb.enc_len n.toNat).2
    by_cases hneg : n < 0
    · simp [layOf, Fl.head, numOf, hneg]
    · have e : layOf [⟨n, ⟨#[]⟩, false⟩] = (allBytes [⟨n, ⟨#[]⟩, false⟩], 0) := by
        unfold layOf
        rw [if_neg (by simpa [Fl.head, numOf] using hneg), if_neg (by simp [allBytes, Fl.bytes, Fl.head, Fl.body, numOf, strOf]; omega)]
      rw [e, if_neg hneg]
  rw [he]
  exact ⟨⟨_, rfl⟩, ((Below.refl _ _).alloc (Nat.le_refl _) _).trans (hb.mono (by simp))⟩

set_option maxRecDepth 100000 in
set_option maxHeartbeats 1600000 in
theorem none_walk (n : Int) (hn : n < 9223372036854775808) (w : World) :
    Calls Try.prog 6 #[.int .i64 n] w fun e w' => e = .returned (.bool true) ∧ Below w.heap.size w w' := by
  have hlay := fun W => lay_one n hn W
  have Hlay := Lib.hid hlay
  clear hlay hn
  by_cases hneg : n < 0
  · have hng : decide (0 ≤ n) = false := by simp; omega
    go_enter Try.func6, Try.ntmps6
    go_wp2_with (first
      | (go_at_call 19; refine (field_n _ _).mono ?_; rintro e w1 ⟨rfl, hb1⟩)
      | (go_at_call 10; refine (Hlay.out _).mono ?_; rintro e w2 ⟨⟨s, rfl⟩, hb2⟩)
      | (go_at_call 7; refine (awake_any _).mono ?_; rintro e w3 ⟨rfl, hb3⟩)
      | (go_at_call 15; refine (n_nil _).mono ?_; rintro e w4 ⟨rfl, rfl⟩)
      | (go_at_call 14; refine (t_nil _).mono ?_; rintro e w4 ⟨rfl, rfl⟩)
      | (go_at_call 17; refine (left_nil _).mono ?_; rintro e w4 ⟨rfl, rfl⟩)
      | (go_at_call 16; refine (err_nil _).mono ?_; rintro e w4 ⟨rfl, rfl⟩)
      | (go_at_call 18; refine (end_nil _).mono ?_; rintro e w4 ⟨rfl, rfl⟩))
    go_ret
    have z1 := hb1.size
    have z2 := hb2.size
    have z3 := hb3.size
    exact ⟨rfl, (hb1.trans (hb2.mono (by omega))).trans (hb3.mono (by omega))⟩
  · have hng : decide (0 ≤ n) = true := by simp; omega
    go_enter Try.func6, Try.ntmps6
    go_wp2_with (first
      | (go_at_call 19; refine (field_n _ _).mono ?_; rintro e w1 ⟨rfl, hb1⟩)
      | (go_at_call 10; refine (Hlay.out _).mono ?_; rintro e w2 ⟨⟨s, rfl⟩, hb2⟩)
      | (go_at_call 7; refine (awake_any _).mono ?_; rintro e w3 ⟨rfl, hb3⟩)
      | (go_at_call 15; refine (n_nil _).mono ?_; rintro e w4 ⟨rfl, rfl⟩)
      | (go_at_call 14; refine (t_nil _).mono ?_; rintro e w4 ⟨rfl, rfl⟩)
      | (go_at_call 17; refine (left_nil _).mono ?_; rintro e w4 ⟨rfl, rfl⟩)
      | (go_at_call 16; refine (err_nil _).mono ?_; rintro e w4 ⟨rfl, rfl⟩)
      | (go_at_call 18; refine (end_nil _).mono ?_; rintro e w4 ⟨rfl, rfl⟩))
    go_ret
    have z1 := hb1.size
    have z2 := hb2.size
    have z3 := hb3.size
    exact ⟨rfl, (hb1.trans (hb2.mono (by omega))).trans (hb3.mono (by omega))⟩

open Go.ChangeShapes Go.WideShapes Go.ChangeAt

set_option maxRecDepth 100000 in
theorem none_lifted (os : Os) (started : os.Started) (H : Type) (enc : TypeId × Value → H) :
    ReturnsInHanded {} Try.checked os 6 .any (Rows.lebNoneSpec.pre6 enc Try.prog Try.f6 Rows.lebNoneRow.domain false) (Rows.lebNoneSpec.post enc Try.prog Try.f6 false true false false) := by
  refine returnsInHanded_of_change (C := Try.checked) own started (by kernel_rfl) Try.func6
    (ChangeSpec.witness6 (enc := enc) (C := Try.checked) false ⟨#[], #[.int .i64 0], []⟩ 8 (by kernel_rfl) (by kernel_rfl) (by kernel_rfl) (by kernel_rfl)) ?_
  intro W base args ds gs before hval0 hW _ _
  have hval : ∀ (j : Nat) t v, Try.f6.params[j]? = some t → args[j]? = some v → Value.okWide Try.prog W .any base t v := hval0
  have hW0 := hW
  obtain ⟨p, q, hA0, hV, _, _, _⟩ := hW
  have hA : DataW.TrodAll enc Try.prog W 0 (fun _ => true) true Try.f6.params.toList args.toList ds p := hA0
  rw [Try.params6] at hA hval
  obtain ⟨v0, vs0, d0, ds0, p0, q0, hargs, rfl, rfl, h0, r0⟩ := trodAll_cons hA
  obtain ⟨rfl, rfl, rfl⟩ := trodAll_nil r0
  obtain rfl : args = #[v0] := by cases args; simp_all
  obtain ⟨a0, rfl, rfl, rfl, w0⟩ := open_int Try.underlying3 (hval 0 3 v0 rfl rfl) h0
  have hb := bounds_i64 w0
  obtain ⟨rfl, rfl⟩ := trodVars_none hV
  refine (none_walk a0 (by omega) W).mono fun e W' ⟨he, hg⟩ => ?_
  subst he
  exact ⟨_, rfl, law_done (by kernel_rfl) rfl hW0 rfl (by rw [Try.params6]; decide +kernel) hg⟩

theorem none_over : Rows.lebNoneRow.holds Try.pinned (OpenSpec.ofChange Rows.lebNoneSpec) :=
  OpenClaim.holds_of_wide 6 Try.f6 rfl rfl rfl rfl rfl rfl rfl ⟨rfl, rfl, rfl, rfl, rfl⟩ rfl rfl rfl rfl rfl (by kernel_rfl) Try.func6 (by kernel_rfl)
    (of_decide_eq_true (by kernel_rfl)) (by unfold Func.isWrapper; first | (rw [if_pos (by decide +kernel)]; kernel_rfl) | (rw [if_neg (by decide +kernel)]; exact ⟨rfl, rfl⟩))
    (fun os started H enc _ => none_lifted os started H enc)

/-- The statement. -/
theorem none_holds : Rows.LebNoneSaid := none_over
#print axioms none_holds
end Go.Proofs.Ytnjmdbgpabekaaa
