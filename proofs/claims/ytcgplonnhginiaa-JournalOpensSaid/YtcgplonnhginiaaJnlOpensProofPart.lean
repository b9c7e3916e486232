/- Which head holds: JournalOpens's statement holds. -/
import Derived.Test.YtcgplonnhginiaaCom9
import Derived.Test.YtcgplonnhginiaaCom34
import Derived.Test.YtcgplonnhginiaaCom10
import Derived.Test.YtcgplonnhginiaaCom33
/- Which head holds: the law's walk. -/
set_option linter.unusedSimpArgs false
set_option linter.unusedVariables false
namespace Go.Proofs.Ytcgplonnhginiaa
open Go.RowKit Dsk Jnl

set_option maxRecDepth 100000 in
theorem readF_codes : ∀ (f : Nat) (s : List UInt8), (Frm.readF f s).2 = 0 ∨ (Frm.readF f s).2 = 5 ∨ (Frm.readF f s).2 = 6 ∨ (Frm.readF f s).2 = 7
  | 0, s => by
    unfold Frm.readF
    split
    · exact Or.inl rfl
    · exact Or.inr (Or.inl rfl)
  | f + 1, s => by
    have h1 : (Frm.first s).2.2 = 0 ∨ (Frm.first s).2.2 = 5 ∨ (Frm.first s).2.2 = 6 ∨ (Frm.first s).2.2 = 7 := by
      have h2 : (Leb.second s).2.2 = 0 ∨ (Leb.second s).2.2 = 5 ∨ (Leb.second s).2.2 = 6 := by
        have h3 := (Leb.first_fits s).2.2.2
        unfold Leb.second
        split
        · split
          · exact Or.inr (Or.inl rfl)
          · exact Or.inl rfl
        · exact h3
      unfold Frm.first
      split
      · split
        · exact Or.inr (Or.inl rfl)
        · split
          · exact Or.inl rfl
          · exact Or.inr (Or.inr (Or.inr rfl))
      · rcases h2 with h | h | h
        · exact Or.inl h
        · exact Or.inr (Or.inl h)
        · exact Or.inr (Or.inr (Or.inl h))
    have ih := readF_codes f (s.drop (Frm.first s).2.1)
    unfold Frm.readF
    split
    · exact Or.inl rfl
    · split
      · split
        · exact Or.inl rfl
        · exact ih
      · exact h1

set_option maxRecDepth 100000 in
/-- What Open answers, by the head that holds. -/
theorem opens_cases (X : Nat → ByteArray) (hX : ∀ k, k < 6 → (X k).data.toList.length = 64) :
    (cur 2 (X 0).data.toList (X 1).data.toList = none ∧ opens 6 X = (8, none, [])) ∨
    ∃ s h u, cur 2 (X 0).data.toList (X 1).data.toList = some (s, h, u) ∧ s < 9223372036854775808 ∧ h ≤ 1 ∧ u ≤ 128 ∧
      ((∃ l bs, opens 6 X = (0, some ⟨s, h, bs, false⟩, l) ∧ bs.length = u ∧ Holds X (2 + h * 2) bs) ∨ ∃ e, opens 6 X = (e, none, []) ∧ e ≠ 0 ∧ e ≠ 8 ∧ u ≠ 0) := by
  have h2 : (6 - 2) / 2 = 2 := rfl
  cases hc : cur 2 (X 0).data.toList (X 1).data.toList with
  | none =>
    left
    refine ⟨rfl, ?_⟩
    unfold opens
    rw [h2, hc]
  | some c =>
    right
    obtain ⟨s, h, u⟩ := c
    have hon : s < 9223372036854775808 ∧ h ≤ 1 ∧ u ≤ 64 * 2 := by
      have hcase : headAt 2 (X 0).data.toList = some (s, h, u) ∨ headAt 2 (X 1).data.toList = some (s, h, u) := by
        unfold cur at hc
        split at hc
        · split at hc
          · injection hc with hc; subst hc; exact Or.inl (by assumption)
          · injection hc with hc; subst hc; exact Or.inr (by assumption)
        · injection hc with hc; subst hc; exact Or.inl (by assumption)
        · exact Or.inr hc
      rcases hcase with e | e
      · obtain ⟨q1, q2, q3, -⟩ := headAt_only e; exact ⟨q1, q2, q3⟩
      · obtain ⟨q1, q2, q3, -⟩ := headAt_only e; exact ⟨q1, q2, q3⟩
    obtain ⟨q1, q2, q3⟩ := hon
    have hb := half_base (h := 2) q2
    obtain ⟨hl, hat⟩ := halfB_at X (2 + h * 2) 2 (fun i hi => hX _ (by omega))
    have hlen : ((halfB X (2 + h * 2) 2).take u).length = u := by rw [List.length_take, hl]; omega
    refine ⟨s, h, u, rfl, q1, q2, by omega, ?_⟩
    by_cases hr : (Frm.read ((halfB X (2 + h * 2) 2).take u)).2 = 0
    · left
      refine ⟨(Frm.read ((halfB X (2 + h * 2) 2).take u)).1, (halfB X (2 + h * 2) 2).take u, ?_, hlen, fun j hj => ?_⟩
      · unfold opens
        rw [h2, hc]
        simp only []
        rw [if_pos hr]
      · rw [hlen] at hj
        rw [List.getElem?_take, if_pos hj, hat j (by omega)]
    · right
      refine ⟨(Frm.read ((halfB X (2 + h * 2) 2).take u)).2, ?_, hr, ?_, ?_⟩
      · unfold opens
        rw [h2, hc]
        simp only []
        rw [if_neg hr]
      · have := readF_codes ((halfB X (2 + h * 2) 2).take u).length ((halfB X (2 + h * 2) 2).take u)
        unfold Frm.read at hr ⊢
        omega
      · rintro rfl
        exact hr rfl

set_option maxRecDepth 100000 in
theorem calm_write {n : Nat} {d : D} (hs : Shape n d) (hc : Calm d) {k : Nat} (hk : k < n) {s : ByteArray} (hx : s.size ≤ 64) : d.write (k : Int) s = (0, { d.call with S := d.S.set k (d.at k ++ [fill s]) }) := by
  rw [write_done hs hc.1 hk hx, if_neg (by rw [hc.call.1]; decide)]

set_option maxRecDepth 100000 in
theorem calm_flush {d : D} (hc : Calm d) : d.flush = (0, { d.call with S := d.S.map fun l => [last l] }) := by
  unfold D.flush
  rw [if_neg (by rw [hc.1]; decide), if_neg (by rw [hc.call.1]; decide)]

set_option maxRecDepth 100000 in
theorem flush_now {n : Nat} {d : D} (hs : Shape n d) (c a : Nat) (dn : Bool) {k : Nat} (hk : k < n) : Jnl.now ⟨d.S.map fun l => [last l], c, a, dn⟩ k = Jnl.now d k := by
  unfold Jnl.now
  have e := (hs.at hk).2
  have : (D.mk (d.S.map fun l => [last l]) c a dn).at k = [last (d.at k)] := by
    unfold D.at at *
    rw [List.getD_eq_getElem?_getD, List.getElem?_map, e]; rfl
  rw [this]; rfl

set_option maxRecDepth 100000 in
/-- The disk of the law. -/
theorem opens_disk (a b : ByteArray) (ha : a.size ≤ 64) (hb : b.size ≤ 64) : ∃ d1 d2 d3 : D, (Dsk.new 6).write 0 a = (0, d1) ∧ d1.write 1 b = (0, d2) ∧ d2.flush = (0, d3) ∧ d1.Fine 1 ∧ d2.Fine 2 ∧ Sound 6 d3 3 ∧ d3.down = false ∧ Jnl.now d3 0 = fill a ∧ Jnl.now d3 1 = fill b := by
  have s0 := shape_new 6
  have c0 := calm_new 6
  have e1 := calm_write s0 c0 (k := 0) (by decide) ha
  have f1 := (new_fine 6 (by decide)).write 0 a
  have l1 := fun i => at_write s0 (k := 0) (by decide) (x := fill a) (Dsk.new 6).call.calls (Dsk.new 6).call.armed (Dsk.new 6).call.down i
  have s1 : Shape 6 { (Dsk.new 6).call with S := (Dsk.new 6).S.set 0 ((Dsk.new 6).at 0 ++ [fill a]) } := s0.set (by simp) _ _ _
  have c1 : Calm { (Dsk.new 6).call with S := (Dsk.new 6).S.set 0 ((Dsk.new 6).at 0 ++ [fill a]) } := c0.call.set _
  have e1' : (Dsk.new 6).write 0 a = (0, { (Dsk.new 6).call with S := (Dsk.new 6).S.set 0 ((Dsk.new 6).at 0 ++ [fill a]) }) := e1
  rw [e1'] at f1
  generalize hd1 : ({ (Dsk.new 6).call with S := (Dsk.new 6).S.set 0 ((Dsk.new 6).at 0 ++ [fill a]) } : D) = d1 at *
  have e2 := calm_write s1 c1 (k := 1) (by decide) hb
  have f2 := f1.write 1 b
  have l2 := fun i => at_write s1 (k := 1) (by decide) (x := fill b) d1.call.calls d1.call.armed d1.call.down i
  have s2 : Shape 6 { d1.call with S := d1.S.set 1 (d1.at 1 ++ [fill b]) } := s1.set (by simp) _ _ _
  have c2 : Calm { d1.call with S := d1.S.set 1 (d1.at 1 ++ [fill b]) } := c1.call.set _
  have e2' : d1.write 1 b = (0, { d1.call with S := d1.S.set 1 (d1.at 1 ++ [fill b]) }) := e2
  rw [e2'] at f2
  generalize hd2 : ({ d1.call with S := d1.S.set 1 (d1.at 1 ++ [fill b]) } : D) = d2 at *
  have e3 := calm_flush c2
  have f3 := f2.flush
  rw [e3] at f3
  have n3 := fun k (hk : k < 6) => flush_now s2 d2.call.calls d2.call.armed d2.call.down hk
  have hn1 : ∀ k, k < 6 → last (d1.at k) = if k = 0 then fill a else fill (text []) := fun k hk => by
    have h := l1 k
    have hx : last ((Dsk.new 6).at k) = fill (text []) := new_last 6 k hk
    rw [hx] at h
    exact h
  have hn2 : ∀ k, k < 6 → last (d2.at k) = if k = 1 then fill b else if k = 0 then fill a else fill (text []) := fun k hk => by
    have h := l2 k
    rw [hn1 k hk] at h
    exact h
  have hnow : ∀ k, k < 6 → Jnl.now ⟨d2.S.map fun l => [last l], d2.call.calls, d2.call.armed, d2.call.down⟩ k = if k = 1 then fill b else if k = 0 then fill a else fill (text []) := fun k hk => (n3 k hk).trans (hn2 k hk)
  have h64 : ∀ s : ByteArray, s.size ≤ 64 → (fill s).data.toList.length = 64 := fun s hs => by rw [← Lib.size_eq]; exact fill_size s hs
  refine ⟨d1, d2, _, e1', e2', e3, f1, f2, ⟨s2.flush _ _ _, f3, by decide, fun k hk => ?_⟩, c2.call.1, hnow 0 (by decide), hnow 1 (by decide)⟩
  rw [hnow k hk]
  split
  · exact h64 b hb
  · split
    · exact h64 a ha
    · exact h64 _ (by decide)

/-- How far the law has come: which head holds of the first k sectors. -/
def curN (X0 X1 : List UInt8) : Nat → Option (Nat × Nat × Nat)
  | 0 => none
  | 1 => headAt 2 X0
  | _ => cur 2 X0 X1

def CurIs (c : Option (Nat × Nat × Nat)) (best used : Nat) (found : Bool) : Prop := (found = true → ∃ half, c = some (best, half, used)) ∧ (found = false → c = none)

set_option maxRecDepth 100000 in
theorem cur_step {X0 X1 X : List UInt8} {k best used x y : Nat} {found ok : Bool} (hk : k < 2) (hX : X = if k = 0 then X0 else X1) (h : CurIs (curN X0 X1 k) best used found) (h1 : ok = true → ∃ half, headAt 2 X = some (x, half, y)) (h2 : ok = false → headAt 2 X = none) :
    (ok = true ∧ (found = false ∨ best < x) → CurIs (curN X0 X1 (k + 1)) x y true) ∧ (¬ (ok = true ∧ (found = false ∨ best < x)) → CurIs (curN X0 X1 (k + 1)) best used found) := by
  have hkk : k = 0 ∨ k = 1 := by omega
  rcases hkk with rfl | rfl
  · rw [if_pos rfl] at hX
    subst hX
    have hf : found = false := by
      cases found with
      | false => rfl
      | true => obtain ⟨_, e⟩ := h.1 rfl; cases e
    subst hf
    constructor
    · rintro ⟨e, -⟩
      exact ⟨fun _ => h1 e, (fun e => by cases e)⟩
    · intro hn
      have ho : ok = false := by
        cases ok with
        | false => rfl
        | true => exact absurd ⟨rfl, Or.inl rfl⟩ hn
      exact ⟨(fun e => by cases e), fun _ => h2 ho⟩
  · rw [if_neg (by decide)] at hX
    subst hX
    have hc : curN X0 X 2 = match headAt 2 X0, headAt 2 X with
      | some a, some b => if b.1 ≤ a.1 then some a else some b
      | some a, none => some a
      | none, b => b := rfl
    have h' : CurIs (headAt 2 X0) best used found := h
    show (_ → CurIs (curN X0 X 2) x y true) ∧ (_ → CurIs (curN X0 X 2) best used found)
    rw [hc]
    cases found with
    | false =>
      have e0 := h'.2 rfl
      rw [e0]
      constructor
      · rintro ⟨e, -⟩
        exact ⟨fun _ => h1 e, (fun e => by cases e)⟩
      · intro hn
        have ho : ok = false := by
          cases ok with
          | false => rfl
          | true => exact absurd ⟨rfl, Or.inl rfl⟩ hn
        exact ⟨(fun e => by cases e), fun _ => h2 ho⟩
    | true =>
      obtain ⟨half, e0⟩ := h'.1 rfl
      rw [e0]
      cases ok with
      | false =>
        rw [h2 rfl]
        exact ⟨(fun e => by cases e.1), fun _ => ⟨fun _ => ⟨half, rfl⟩, (fun e => by cases e)⟩⟩
      | true =>
        obtain ⟨half2, e1⟩ := h1 rfl
        rw [e1]
        constructor
        · rintro ⟨-, e⟩
          have : best < x := e.resolve_left (by decide)
          refine ⟨fun _ => ⟨half2, ?_⟩, (fun e => by cases e)⟩
          show (if x ≤ best then _ else _) = _
          rw [if_neg (by omega)]
        · intro hn
          have : ¬ best < x := fun e => hn ⟨rfl, Or.inr e⟩
          refine ⟨fun _ => ⟨half, ?_⟩, (fun e => by cases e)⟩
          show (if x ≤ best then _ else _) = _
          rw [if_pos (by omega)]

section
variable {At : World → (Nat → Prop) → Value → D → Prop} {Own : World → (Nat → Prop) → Value → Value → Nat → J → Prop}

set_option maxRecDepth 100000 in
theorem x_cells (w : World) : Cells (w.alloc (.cells #[.string ⟨#[120]⟩] 9)) (fun i => i = w.heap.size) (.slice (some ⟨w.heap.size, 0, none⟩) 1 1) (texts [[120]]) :=
  ⟨some ⟨w.heap.size, 0, none⟩, 1, rfl, Nat.le_refl _, fun _ => ⟨w.heap.size, 0, rfl, rfl, by simp, fun i u hu => by
    rw [Nat.zero_add, (Row.made w 9 #[.string ⟨#[120]⟩]).at]
    rw [show (#[.string ⟨#[120]⟩] : Array Value) = (texts [[120]]).toArray from rfl, List.getElem?_toArray]
    exact hu⟩⟩

set_option maxRecDepth 100000 in
set_option maxHeartbeats 1600000 in
theorem opens_far (U : DiskUse At) (H : JournalOk At Own) (a b : ByteArray) (w : World) (hf : 64 < a.size ∨ 64 < b.size) (ha : a.size ≤ 9223372036854775807) (hb : b.size ≤ 9223372036854775807) :
    Calls Try.prog 5 #[.string a, .string b] w fun e w' => e = .returned (.bool true) ∧ Below w.heap.size w w' := by
  have C0 := Lib.hid (dw_new U 6 w (by decide) (by decide))
  have Caw := Lib.hid (fun W => jnl_awake U H W)
  by_cases h1 : 64 < a.size
  · have c1 : decide ((a.size : Int) > 64) = true := by simp; omega
    clear hf h1
    go_enter Try.func5, Try.ntmps5
    go_wp2_with fail
    refine C0.out.mono ?_
    rintro e w1 ⟨p, rfl, h1⟩
    have H1 := Lib.hid h1.bel
    clear h1
    go_wp2_with fail
    refine (Caw.out _).mono ?_
    rintro e w2 ⟨rfl, h2⟩
    have H2 := Lib.hid (H1.out.trans (h2.mono H1.out.size))
    clear h2
    go_wp2_with fail
    refine (Caw.out _).mono ?_
    rintro e w3 ⟨rfl, h3⟩
    have H3 := Lib.hid (H2.out.trans (h3.mono H2.out.size))
    clear h3
    go_wp2_with fail
    go_ret
    exact ⟨rfl, H3.out⟩
  · have c1 : decide ((a.size : Int) > 64) = false := by simp; omega
    have c2 : decide ((b.size : Int) > 64) = true := by have := hf.resolve_left h1; simp; omega
    clear hf h1
    go_enter Try.func5, Try.ntmps5
    go_wp2_with fail
    refine C0.out.mono ?_
    rintro e w1 ⟨p, rfl, h1⟩
    have H1 := Lib.hid h1.bel
    clear h1
    go_wp2_with fail
    refine (Caw.out _).mono ?_
    rintro e w2 ⟨rfl, h2⟩
    have H2 := Lib.hid (H1.out.trans (h2.mono H1.out.size))
    clear h2
    go_wp2_with fail
    refine (Caw.out _).mono ?_
    rintro e w3 ⟨rfl, h3⟩
    have H3 := Lib.hid (H2.out.trans (h3.mono H2.out.size))
    clear h3
    go_wp2_with fail
    go_ret
    exact ⟨rfl, H3.out⟩

set_option maxRecDepth 100000 in
set_option maxHeartbeats 3200000 in
theorem opens_near (U : DiskUse At) (H : JournalOk At Own) (a b : ByteArray) (w : World) (ha : a.size ≤ 64) (hb : b.size ≤ 64) :
    Calls Try.prog 5 #[.string a, .string b] w fun e w' => e = .returned (.bool true) ∧ Below w.heap.size w w' := by
  obtain ⟨d1, d2, d3, e1, e2, e3, f1, f2, s3, up3, n0, n1⟩ := opens_disk a b ha hb
  have C0 := Lib.hid (dw_new U 6 w (by decide) (by decide))
  have Caw := Lib.hid (fun W => jnl_awake U H W)
  have C1 : Hid (∀ W p, Dw At w (fun _ => False) (.pointer (some p)) (Dsk.new 6) W → Calls Try.prog 25 #[.pointer (some p), .int .i64 0, .string a] W fun e w' => e = .returned (.int .i64 0) ∧ Dw At w (fun _ => False) (.pointer (some p)) d1 w' ∧ SameZ (fun _ => False) W w') := Lib.hid (fun W p h => by
    have := h.call (fun F hF => U.write hF (new_fine 6 (by decide)) (by decide) 0 a (by decide) (by decide) (by omega))
    rw [e1] at this
    exact this)
  have C2 : Hid (∀ W p, Dw At w (fun _ => False) (.pointer (some p)) d1 W → Calls Try.prog 25 #[.pointer (some p), .int .i64 1, .string b] W fun e w' => e = .returned (.int .i64 0) ∧ Dw At w (fun _ => False) (.pointer (some p)) d2 w' ∧ SameZ (fun _ => False) W w') := Lib.hid (fun W p h => by
    have := h.call (fun F hF => U.write hF f1 (by decide) 1 b (by decide) (by decide) (by omega))
    rw [e2] at this
    exact this)
  have C3 : Hid (∀ W p, Dw At w (fun _ => False) (.pointer (some p)) d2 W → Calls Try.prog 26 #[.pointer (some p)] W fun e w' => e = .returned (.int .i64 0) ∧ Dw At w (fun _ => False) (.pointer (some p)) d3 w' ∧ SameZ (fun _ => False) W w') := Lib.hid (fun W p h => by
    have := h.call (fun F hF => U.flush hF f2 (by decide))
    rw [e3] at this
    exact this)
  have Db : Hid (∀ W W' p, Dw At w (fun _ => False) (.pointer (some p)) (Dsk.new 6) W → Below W.heap.size W W' → Dw At w (fun _ => False) (.pointer (some p)) (Dsk.new 6) W') := Lib.hid (fun W W' p h k => (h.below U k).1)
  have Cfa := Lib.hid (fun W => ref_fill a W ha)
  have Cfb := Lib.hid (fun W => ref_fill b W hb)
  have c1 : decide ((a.size : Int) > 64) = false := by simp; omega
  have c2 : decide ((b.size : Int) > 64) = false := by simp; omega
  have hX := s3.full
  have hoc := opens_cases (Jnl.now d3) hX
  rw [n0, n1] at hoc
  have Hoc := Lib.hid hoc
  have S3 := Lib.hid s3
  have Up3 := Lib.hid up3
  have Za : Hid ((fill a).size = 64) := Lib.hid (fill_size a ha)
  have Zb : Hid ((fill b).size = 64) := Lib.hid (fill_size b hb)
  clear e1 e2 e3 f1 f2 n0 n1 hX hoc s3 up3 ha hb
  generalize fill a = xa at *
  generalize fill b = xb at *
  go_enter Try.func5, Try.ntmps5
  go_wp2_with fail
  refine C0.out.mono ?_
  rintro e w1 ⟨p, rfl, h1⟩
  have H1 := Lib.hid h1
  clear h1
  go_wp2_with fail
  refine (Caw.out _).mono ?_
  rintro e w2 ⟨rfl, h2⟩
  have H2 := Lib.hid (Db.out _ _ _ H1.out h2)
  clear h2
  go_wp2_with fail
  refine (C1.out _ _ H2.out).mono ?_
  rintro e w3 ⟨rfl, h3, -⟩
  have H3 := Lib.hid h3
  clear h3
  go_wp2_with fail
  refine (C2.out _ _ H3.out).mono ?_
  rintro e w4 ⟨rfl, h4, -⟩
  have H4 := Lib.hid h4
  clear h4
  go_wp2_with fail
  refine (C3.out _ _ H4.out).mono ?_
  rintro e w5 ⟨rfl, h5, -⟩
  have H5 := Lib.hid h5
  clear h5
  go_wp2_with fail
  refine (Cfa.out _).mono ?_
  rintro e w6 ⟨rfl, rfl⟩
  go_wp2_with fail
  refine (Cfb.out _).mono ?_
  rintro e w6 ⟨rfl, rfl⟩
  have hD : Dw At w (fun i => i = w5.heap.size) (.pointer (some p)) d3 (w5.alloc (.cells #[.string xa, .string xb] 9)) := H5.out.more U ((Below.refl _ _).alloc (Nat.le_refl _) _) (fun i hi => Or.inr (by subst hi; simp))
  have hR := Row.made w5 9 #[.string xa, .string xb]
  go_wp2_with fail
  generalize w5.alloc (.cells #[.string xa, .string xb] 9) = w6 at *
  generalize w5.heap.size = bl at *
  go_loopw [7, 8, 10, 11] (fun be us fo i wr => ∃ (k best used : Nat) (found : Bool), k ≤ 2 ∧ i = .int .i64 (k : Int) ∧ be = .int .i64 (best : Int) ∧ us = .int .i64 (used : Int) ∧ fo = .bool found ∧ CurIs (curN xa.data.toList xb.data.toList k) best used found ∧ Dw At w (fun i => i = bl) (.pointer (some p)) d3 wr ∧ Row wr bl 9 #[.string xa, .string xb]) (fun _ _ _ i _ => 2 - (intOf i).toNat)
  case atStart => exact ⟨0, 0, 0, false, by decide, rfl, rfl, rfl, rfl, ⟨(fun e => by cases e), fun _ => rfl⟩, hD, hR⟩
  case round =>
    clear hD hR
    obtain ⟨k, best, used, found, hk, rfl, rfl, rfl, rfl, hcur, hD, hR⟩ := hrel
    have HD := Lib.hid hD
    have HR := Lib.hid hR
    have Hcur := Lib.hid hcur
    by_cases hlt : k < 2
    · obtain ⟨sx, hsx⟩ : ∃ sx, sx = if k = 0 then xa else xb := ⟨_, rfl⟩
      have hcell : wr.cell? ⟨bl, k, none⟩ = some (.string sx) := by
        rw [hR.at k, hsx]
        match k, hlt with
        | 0, _ => rfl
        | 1, _ => rfl
      have hsz : sx.size = 64 := by
        rw [hsx]; split
        · exact Za.out
        · exact Zb.out
      have Chd := Lib.hid (law_head sx wr hsz)
      have Hsx : Hid (sx.data.toList = if k = 0 then xa.data.toList else xb.data.toList) := Lib.hid (by rw [hsx]; split <;> rfl)
      clear hsz hsx hD hR hcur
      go_wp2_with fail
      refine Chd.out.mono ?_
      rintro e w7 ⟨x, y, ok, rfl, q1, q2, hb⟩
      obtain ⟨stepY, stepN⟩ := cur_step hlt Hsx.out Hcur.out q1 q2
      have StepY := Lib.hid stepY
      have StepN := Lib.hid stepN
      have HD7 := Lib.hid (HD.out.below U hb).1
      have HR7 := Lib.hid (HR.out.below hb HR.out.inHeap)
      clear q1 q2 hb stepY stepN hcell
      cases ok
      · go_wp2_with fail
        go_roundw
        case rel => exact ⟨k + 1, best, used, found, by omega, by go_num, rfl, rfl, rfl, StepN.out (fun h => by cases h.1), HD7.out, HR7.out⟩
        case measure => simp [intOf]; omega
      · cases found
        · go_wp2_with fail
          go_roundw
          case rel => exact ⟨k + 1, x, y, true, by omega, by go_num, rfl, rfl, rfl, StepY.out (by simp), HD7.out, HR7.out⟩
          case measure => simp [intOf]; omega
        · by_cases hbx : best < x
          · have hd1 : decide (best < x) = true := decide_eq_true hbx
            have Hbx := Lib.hid hbx
            clear hbx
            go_wp2_with fail
            go_roundw
            case rel => exact ⟨k + 1, x, y, true, by omega, by go_num, rfl, rfl, rfl, StepY.out (by simp [Hbx.out]), HD7.out, HR7.out⟩
            case measure => simp [intOf]; omega
          · have hd1 : decide (best < x) = false := decide_eq_false hbx
            have Hbx := Lib.hid hbx
            clear hbx
            go_wp2_with fail
            go_roundw
            case rel => exact ⟨k + 1, best, used, true, by omega, by go_num, rfl, rfl, rfl, StepN.out (fun h => h.2.elim (fun e => by cases e) Hbx.out), HD7.out, HR7.out⟩
            case measure => simp [intOf]; omega
    · obtain rfl : k = 2 := by omega
      clear hD hR hcur
      have hcr : CurIs (cur 2 xa.data.toList xb.data.toList) best used found := Hcur.out
      rcases Hoc.out with ⟨hc0, ho⟩ | ⟨q, h, u, hc0, hq, hh, hu, ho⟩
      · -- no head holds
        have hf : found = false := by
          cases found with
          | false => rfl
          | true => obtain ⟨_, e⟩ := hcr.1 rfl; rw [hc0] at e; cases e
        subst hf
        have C4 := Lib.hid (HD.out.refused H S3.out (by decide) Up3.out ho)
        clear hcr hc0 ho
        go_wp2_with fail
        refine C4.out.mono ?_
        rintro e w8 ⟨⟨A, c, rfl⟩, h8, -⟩
        have H8 := Lib.hid h8.bel
        clear h8
        go_wp2_with fail
        go_ret
        exact ⟨rfl, H8.out⟩
      · have hf : found = true := by
          cases found with
          | true => rfl
          | false => have e := hcr.2 rfl; rw [hc0] at e; cases e
        subst hf
        obtain ⟨half, e⟩ := hcr.1 rfl
        rw [hc0] at e
        obtain ⟨rfl, rfl, rfl⟩ : q = best ∧ h = half ∧ u = used := by
          injection e with e
          injection e with e1 e
          injection e with e2 e3
          exact ⟨e1, e2, e3⟩
        have hq2 : (q : Int) ≤ 9223372036854775807 := by omega
        have hu2 : (u : Int) ≤ 128 := by omega
        rcases ho with ⟨l, bs, ho, hbs, hld⟩ | ⟨x, ho, hx0, hx8, hu0⟩
        · have C4 := Lib.hid (HD.out.openedAt U H S3.out (by decide) Up3.out ho)
          have Held0 : Hid (Held 6 d3 ⟨q, h, bs, false⟩) := Lib.hid ⟨S3.out.shape, Up3.out, hh, by show bs.length ≤ 64 * hof 6; rw [hbs]; show u ≤ 64 * 2; omega, hld, S3.out.full, hq⟩
          have Hbs := Lib.hid hbs
          have Hq := Lib.hid hq
          clear hcr hc0 ho hbs hld e
          by_cases hu0 : u = 0
          · subst hu0
            by_cases hqm : q = 9223372036854775807
            · -- the greatest number: nothing more is kept
              have Ca : Hid (∀ W r Z, Jw At Own w Z (.pointer (some p)) (.pointer (some r)) 6 d3 ⟨q, h, bs, false⟩ W → Calls Try.prog 14 #[.pointer (some r), .slice (some ⟨W.heap.size, 0, none⟩) 1 1] (W.alloc (.cells #[.string ⟨#[120]⟩] 9)) fun e w' =>
                  e = .returned (.int .i64 15) ∧ Jw At Own w (fun _ => False) (.pointer (some p)) (.pointer (some r)) 6 d3 ⟨q, h, bs, false⟩ w') := Lib.hid (fun W r Z hj => by
                have hb := hj.more U H (w' := W.alloc (.cells #[.string ⟨#[120]⟩] 9)) ((Below.refl _ _).alloc (Nat.le_refl _) _) (Y := fun i => i = W.heap.size) (fun i hi => Or.inr (by subst hi; simp))
                have hap : Jnl.append 6 d3 ⟨q, h, bs, false⟩ [[120]] = (15, d3, ⟨q, h, bs, false⟩) := by
                  unfold Jnl.append
                  rw [if_neg (show ¬ ((false : Bool) = true) by decide), if_pos (show q = 9223372036854775807 from hqm)]
                have hc := hb.call (fun F hF hz => H.append hF S3.out (by decide) (Or.inr ⟨Held0.out, by decide⟩) (x_cells W) (fun k hk hf => hz k hf hk) (by decide) (fun t ht => by rw [List.mem_singleton.1 ht]; decide))
                rw [hap] at hc
                refine hc.mono ?_
                rintro e w' ⟨rfl, k1, -⟩
                exact ⟨rfl, k1.more U H (Below.refl _ _) (fun i hi => hi.elim)⟩)
              have Cr : Hid (∀ W r, Jw At Own w (fun _ => False) (.pointer (some p)) (.pointer (some r)) 6 d3 ⟨q, h, bs, false⟩ W → Calls Try.prog 13 #[.pointer (some r), .slice none 0 0] W fun e w' => e = .returned (.int .i64 15) ∧ Below w.heap.size w w') := Lib.hid (fun W r hj => by
                have hap : Jnl.rewrite 6 d3 ⟨q, h, bs, false⟩ [] = (15, d3, ⟨q, h, bs, false⟩) := by
                  unfold Jnl.rewrite
                  rw [if_neg (show ¬ ((false : Bool) = true) by decide), if_pos (show q = 9223372036854775807 from hqm)]
                have hc := hj.call (fun F hF hz => H.rewrite hF S3.out (by decide) (Or.inr ⟨Held0.out, by decide⟩) (G := fun _ => False) (lv := .slice none 0 0) (a := []) (Cells.none _ _) (fun _ h => h.elim) (by decide) (fun t ht => by cases ht))
                rw [hap] at hc
                refine hc.mono ?_
                rintro e w' ⟨rfl, k1, -⟩
                exact ⟨rfl, k1.bel⟩)
              have hqb : ((q : Int) == 9223372036854775807) = true := by rw [hqm]; rfl
              clear hqm
              go_wp2_with fail
              refine C4.out.mono ?_
              rintro e w8 ⟨r, lv, G, rfl, h8, ⟨A, c, rfl, -, -⟩, -, -⟩
              have H8 := Lib.hid h8
              clear h8
              go_wp2_with fail
              refine (Ca.out _ _ _ H8.out).mono ?_
              rintro e w9 ⟨rfl, h9⟩
              have H9 := Lib.hid h9
              clear h9
              go_wp2_with fail
              refine (Cr.out _ _ H9.out).mono ?_
              rintro e w10 ⟨rfl, h10⟩
              have H10 := Lib.hid h10
              clear h10
              go_wp2_with fail
              go_ret
              exact ⟨rfl, H10.out⟩
            · have hqb : ((q : Int) == 9223372036854775807) = false := by rw [beq_eq_false_iff_ne]; omega
              clear hqm
              have Cs : Hid (∀ W r Z, Jw At Own w Z (.pointer (some p)) (.pointer (some r)) 6 d3 ⟨q, h, bs, false⟩ W → Calls Try.prog 19 #[.pointer (some r)] W fun e w' => e = .returned (.int .i64 (q : Int)) ∧ Jw At Own w Z (.pointer (some p)) (.pointer (some r)) 6 d3 ⟨q, h, bs, false⟩ w') := Lib.hid (fun W r Z hj => by
                refine (hj.call (fun F hF hz => H.seq hF)).mono ?_
                rintro e w' ⟨rfl, k1, -⟩
                exact ⟨rfl, k1⟩)
              have Cu : Hid (∀ W r Z, Jw At Own w Z (.pointer (some p)) (.pointer (some r)) 6 d3 ⟨q, h, bs, false⟩ W → Calls Try.prog 20 #[.pointer (some r)] W fun e w' => e = .returned (.int .i64 0) ∧ Below w.heap.size w w') := Lib.hid (fun W r Z hj => by
                refine (hj.call (fun F hF hz => H.used hF)).mono ?_
                rintro e w' ⟨rfl, k1, -⟩
                exact ⟨by rw [Hbs.out]; rfl, k1.bel⟩)
              go_wp2_with fail
              refine C4.out.mono ?_
              rintro e w8 ⟨r, lv, G, rfl, h8, ⟨A, c, rfl, -, -⟩, -, -⟩
              have H8 := Lib.hid h8
              clear h8
              go_wp2_with fail
              refine (Cs.out _ _ _ H8.out).mono ?_
              rintro e w9 ⟨rfl, h9⟩
              have H9 := Lib.hid h9
              clear h9
              go_wp2_with fail
              refine (Cu.out _ _ _ H9.out).mono ?_
              rintro e w10 ⟨rfl, h10⟩
              have H10 := Lib.hid h10
              clear h10
              go_wp2_with fail
              go_ret
              exact ⟨rfl, H10.out⟩
          · have hub : ((u : Int) == 0) = false := by rw [beq_eq_false_iff_ne]; omega
            clear hu0
            have Cs : Hid (∀ W r Z, Jw At Own w Z (.pointer (some p)) (.pointer (some r)) 6 d3 ⟨q, h, bs, false⟩ W → Calls Try.prog 19 #[.pointer (some r)] W fun e w' => e = .returned (.int .i64 (q : Int)) ∧ Jw At Own w Z (.pointer (some p)) (.pointer (some r)) 6 d3 ⟨q, h, bs, false⟩ w') := Lib.hid (fun W r Z hj => by
              refine (hj.call (fun F hF hz => H.seq hF)).mono ?_
              rintro e w' ⟨rfl, k1, -⟩
              exact ⟨rfl, k1⟩)
            have Cu : Hid (∀ W r Z, Jw At Own w Z (.pointer (some p)) (.pointer (some r)) 6 d3 ⟨q, h, bs, false⟩ W → Calls Try.prog 20 #[.pointer (some r)] W fun e w' => e = .returned (.int .i64 (u : Int)) ∧ Below w.heap.size w w') := Lib.hid (fun W r Z hj => by
              refine (hj.call (fun F hF hz => H.used hF)).mono ?_
              rintro e w' ⟨rfl, k1, -⟩
              exact ⟨by rw [Hbs.out], k1.bel⟩)
            go_wp2_with fail
            refine C4.out.mono ?_
            rintro e w8 ⟨r, lv, G, rfl, h8, ⟨A, c, rfl, -, -⟩, -, -⟩
            have H8 := Lib.hid h8
            clear h8
            go_wp2_with fail
            refine (Cs.out _ _ _ H8.out).mono ?_
            rintro e w9 ⟨rfl, h9⟩
            have H9 := Lib.hid h9
            clear h9
            go_wp2_with fail
            refine (Cu.out _ _ _ H9.out).mono ?_
            rintro e w10 ⟨rfl, h10⟩
            have H10 := Lib.hid h10
            clear h10
            go_wp2_with fail
            go_ret
            exact ⟨rfl, H10.out⟩
        · have C4 := Lib.hid (HD.out.refused H S3.out (by decide) Up3.out ho)
          have hub : ((u : Int) == 0) = false := by rw [beq_eq_false_iff_ne]; omega
          have hx0a : (x == 0) = false := by simpa using hx0
          have hx0b : (x != 0) = true := by simpa using hx0
          have hx8b : (x != 8) = true := by simpa using hx8
          clear hcr hc0 ho hu0 hx0 hx8 e
          go_wp2_with fail
          refine C4.out.mono ?_
          rintro e w8 ⟨⟨A, c, rfl⟩, h8, -⟩
          have H8 := Lib.hid h8.bel
          clear h8
          go_wp2_with fail
          go_ret
          exact ⟨rfl, H8.out⟩
end
end Go.Proofs.Ytcgplonnhginiaa
namespace Go.Proofs.Ytcgplonnhginiaa
open Go.RowKit

set_option maxRecDepth 100000 in
theorem opens_any (a b : ByteArray) (w : World) (ha : a.size ≤ 9223372036854775807) (hb : b.size ≤ 9223372036854775807) :
    Calls Try.prog 5 #[.string a, .string b] w fun e w' => e = .returned (.bool true) ∧ Below w.heap.size w w' := by
  by_cases h : a.size ≤ 64 ∧ b.size ≤ 64
  · exact opens_near disk_use journal_ok a b w h.1 h.2
  · exact opens_far disk_use journal_ok a b w (by omega) ha hb

open Go.ChangeShapes Go.WideShapes Go.ChangeAt
open Go.ChangeMaps (open_string shut_string)

set_option maxRecDepth 100000 in
theorem journalOpens_lifted (os : Os) (started : os.Started) (H : Type) (enc : TypeId × Value → H) :
    ReturnsInHanded {} Try.checked os 5 .any (Rows.journalOpensSpec.pre6 enc Try.prog Try.f5 Rows.journalOpensRow.domain false) (Rows.journalOpensSpec.post enc Try.prog Try.f5 false true false false) := by
  refine returnsInHanded_of_change_sized (C := Try.checked) own started (by kernel_rfl) Try.func5
    (ChangeSpec.witness6 (enc := enc) (C := Try.checked) false ⟨#[], #[.string ⟨#[]⟩, .string ⟨#[]⟩], []⟩ 8 (by kernel_rfl) (by kernel_rfl) (by kernel_rfl) (by kernel_rfl)) ?_
  intro W base args ds gs before hval0 hW _ hsz _
  have hval : ∀ (j : Nat) t v, Try.f5.params[j]? = some t → args[j]? = some v → Value.okWide Try.prog W .any base t v := hval0
  have hW0 := hW
  obtain ⟨p, q, hA0, hV, _, _, _⟩ := hW
  have hA : DataW.TrodAll enc Try.prog W 0 (fun _ => true) true Try.f5.params.toList args.toList ds p := hA0
  rw [Try.params5] at hA hval hsz
  obtain ⟨v0, vs0, d0, ds0, p0, q0, hargs, rfl, rfl, h0, r0⟩ := trodAll_cons hA
  obtain ⟨v1, vs1, d1, ds1, p1, q1, rfl, rfl, rfl, h1, r1⟩ := trodAll_cons r0
  obtain ⟨rfl, rfl, rfl⟩ := trodAll_nil r1
  obtain rfl : args = #[v0, v1] := by cases args; simp_all
  obtain ⟨a, rfl, rfl, rfl, a0⟩ := open_string Try.underlying9 (hval 0 9 v0 rfl rfl) h0
  have a63 : a.size ≤ 9223372036854775807 := by unfold maxLen at a0; omega
  obtain ⟨b, rfl, rfl, rfl, b0⟩ := open_string Try.underlying9 (hval 1 9 v1 rfl rfl) h1
  have b63 : b.size ≤ 9223372036854775807 := by unfold maxLen at b0; omega
  obtain ⟨rfl, rfl⟩ := trodVars_none hV
  refine (opens_any a b W a63 b63).mono fun e W' ⟨he, hg⟩ => ?_
  subst he
  exact ⟨_, rfl, law_done (by kernel_rfl) rfl hW0 rfl (by rw [Try.params5]; decide +kernel) hg⟩

set_option maxRecDepth 100000 in
theorem journalOpens_over : Rows.journalOpensRow.holds Try.pinned (OpenSpec.ofChange Rows.journalOpensSpec) :=
  OpenClaim.holds_of_wide 5 Try.f5 rfl rfl rfl rfl rfl rfl rfl ⟨rfl, rfl, rfl, rfl, rfl⟩ rfl rfl rfl rfl rfl (by kernel_rfl) Try.func5 (by kernel_rfl)
    (of_decide_eq_true (by kernel_rfl)) (by unfold Func.isWrapper; first | (rw [if_pos (by decide +kernel)]; kernel_rfl) | (rw [if_neg (by decide +kernel)]; exact ⟨rfl, rfl⟩))
    (fun os started H enc _ => journalOpens_lifted os started H enc)

set_option maxRecDepth 100000 in
/-- The statement. -/
theorem journalOpens_holds : Rows.JournalOpensSaid := journalOpens_over
#print axioms journalOpens_holds
end Go.Proofs.Ytcgplonnhginiaa
