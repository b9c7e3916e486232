/- What must come at any rate ('awake' of layer 14); versions just made; the very same versions are the same. -/
import Derived.Test.YtnpnjophlajfkaaIsetOk
import Derived.Test.YtnpnjophlajfkaaIsetRef
import Derived.Test.YtnpnjophlajfkaaVerSam
set_option linter.unusedSimpArgs false
set_option linter.unusedVariables false
namespace Go.Proofs.Ytnpnjophlajfkaa
open Go.RowKit Go.Sort

set_option maxRecDepth 100000 in
/-- Versions, just made. -/
theorem vers_made (W : World) (t : TypeId) (l : List Ver.V) : Vrs (W.alloc (.cells (l.flatMap verV).toArray t)) (fun i => i = W.heap.size) (.slice (some ⟨W.heap.size, 0, none⟩) l.length l.length) l :=
  ⟨some ⟨W.heap.size, 0, none⟩, l.length, rfl, Nat.le_refl _, fun _ => ⟨W.heap.size, 0, rfl, rfl, by simp, fun i x hx j u hu => by
    rw [(Row.made W _ _).at, Nat.zero_add, List.getElem?_toArray]
    exact rows_at (k := 2) (f := verV) l (fun _ _ => rfl) i x hx j u hu⟩⟩

set_option maxRecDepth 100000 in
theorem same_true {w : World} {F G : Nat → Prop} {u v : Value} {a : List Ver.V} (ha : Vrs w F u a) (hb : Vrs w G v a) (la : a.length ≤ 1000000) :
    Calls Try.prog 11 #[u, v] w fun e w' => e = .returned (.bool true) ∧ Below w.heap.size w w' := by
  have := ref_vsame ha hb la la
  rwa [decide_eq_true rfl] at this

set_option maxRecDepth 100000 in
set_option maxHeartbeats 1600000 in
theorem iset_awake (Z : IsetOk) (w : World) : Calls Try.prog 10 #[] w fun e w' => e = .returned (.bool true) ∧ Below w.heap.size w w' := by
  have e0 : Ver.sort [⟨2, 1⟩, ⟨1, 3⟩, ⟨2, 1⟩] = [⟨1, 3⟩, ⟨2, 1⟩] := by decide
  have OF : Hid (∀ W : World, Calls Try.prog 12 #[.slice (some ⟨W.heap.size, 0, none⟩) 3 3] (W.alloc (.cells #[.int .i64 2, .int .i64 1, .int .i64 1, .int .i64 3, .int .i64 2, .int .i64 1] 24)) fun e w' => ∃ v', e = .returned v' ∧ Vrs w' (NewIn (W.alloc (.cells #[.int .i64 2, .int .i64 1, .int .i64 1, .int .i64 3, .int .i64 2, .int .i64 1] 24)) w') v' [⟨1, 3⟩, ⟨2, 1⟩] ∧ Below (W.alloc (.cells #[.int .i64 2, .int .i64 1, .int .i64 1, .int .i64 3, .int .i64 2, .int .i64 1] 24)).heap.size (W.alloc (.cells #[.int .i64 2, .int .i64 1, .int .i64 1, .int .i64 3, .int .i64 2, .int .i64 1] 24)) w') := Lib.hid (fun W => by
    have := Z.ofl (vers_made W 24 [⟨2, 1⟩, ⟨1, 3⟩, ⟨2, 1⟩]) (by decide)
    rwa [e0] at this)
  have M2 : Hid (∀ W : World, Vrs (W.alloc (.cells #[.int .i64 1, .int .i64 3, .int .i64 2, .int .i64 1] 24)) (fun i => i = W.heap.size) (.slice (some ⟨W.heap.size, 0, none⟩) 2 2) [⟨1, 3⟩, ⟨2, 1⟩]) := Lib.hid (fun W => vers_made W 24 [⟨1, 3⟩, ⟨2, 1⟩])
  have HA : Hid (∀ W : World, Calls Try.prog 13 #[.slice (some ⟨W.heap.size, 0, none⟩) 1 1, .agg #[.int .i64 1, .int .i64 3]] (W.alloc (.cells #[.int .i64 1, .int .i64 3] 24)) fun e w' => e = .returned (.bool true) ∧ Below (W.alloc (.cells #[.int .i64 1, .int .i64 3] 24)).heap.size (W.alloc (.cells #[.int .i64 1, .int .i64 3] 24)) w') := Lib.hid (fun W => Z.has ⟨1, 3⟩ (vers_made W 24 [⟨1, 3⟩]) (by decide))
  clear e0
  have L1 := Lib.hid (Laid.new w (.cells #[.int .i64 2, .int .i64 1, .int .i64 1, .int .i64 3, .int .i64 2, .int .i64 1] 24)).below
  go_enter Try.func10, Try.ntmps10
  go_wp2_with fail
  refine (OF.out _).mono ?_
  rintro e w1 ⟨v1, rfl, h1, h2⟩
  have hb := (Laid.new w1 (.cells #[.int .i64 1, .int .i64 3, .int .i64 2, .int .i64 1] 24)).below
  have B1 := Lib.hid (L1.out.trans ((h2.trans (hb.mono h2.size)).mono L1.out.size))
  have SA := Lib.hid (same_true (Rws.below h1 hb) (M2.out w1) (by decide))
  clear h1 h2 hb
  go_wp2_with fail
  refine (SA.out).mono ?_
  rintro e w2 ⟨rfl, h2⟩
  have hb := (Laid.new w2 (.cells #[.int .i64 1, .int .i64 3] 24)).below
  have B2 := Lib.hid (B1.out.trans ((h2.trans (hb.mono h2.size)).mono B1.out.size))
  clear h2 hb
  go_wp2_with fail
  refine (HA.out _).mono ?_
  rintro e w3 ⟨rfl, h3⟩
  have B3 := Lib.hid (B2.out.trans (h3.mono B2.out.size))
  clear h3
  go_wp2_with fail
  go_ret
  exact ⟨rfl, B3.out⟩
end Go.Proofs.Ytnpnjophlajfkaa
