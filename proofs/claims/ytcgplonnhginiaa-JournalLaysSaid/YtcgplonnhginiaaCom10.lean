/- Layer 5: lists that are not far too long; lists of texts that came in. -/
import Derived.Test.YtcgplonnhginiaaCom8
import Derived.Test.YtcgplonnhginiaaCom1
import Derived.Test.YtcgplonnhginiaaCom7
import Derived.Test.YtcgplonnhginiaaCom3
import Derived.Deep.Slices
import Derived.Deep.Fields
import Derived.OwnWalk
import Derived.Lib.Strings
import Derived.Deep.RegionHeld3
set_option linter.unusedSimpArgs false
set_option linter.unusedVariables false
namespace Go.Proofs.Ytcgplonnhginiaa
open Go.ChangeShapes Go.WideShapes Go.ChangeAt Go.RowKit Go.Deep

/-- Records that are not far too long. -/
def Slight (l : List (List UInt8)) : Prop := (∀ t ∈ l, t.length ≤ 200) ∧ l.length ≤ 12
instance (l : List (List UInt8)) : Decidable (Slight l) := inferInstanceAs (Decidable (_ ∧ _))

set_option maxRecDepth 100000 in
set_option maxHeartbeats 800000 in
theorem slight_any {w : World} {F : Nat → Prop} {v : Value} {l : List (List UInt8)} (h : Cells w F v (texts l)) (hl : l.length ≤ 9223372036854775807) :
    Calls Try.prog 11 #[v] w fun e w' => e = .returned (.bool (decide (Slight l))) ∧ w' = w := by
  obtain ⟨A, cap, rfl, hcap, hat⟩ := h
  rw [texts_len] at hcap hat ⊢
  have Hat := Lib.hid hat
  have hl' : (l.length : Int) ≤ 9223372036854775807 := by omega
  clear hat hl
  go_enter Try.func11, Try.ntmps11
  go_wp2_with fail
  go_loopw [3] (fun i wr => ∃ k : Nat, k ≤ l.length ∧ i = .int .i64 (k : Int) ∧ (∀ t ∈ l.take k, t.length ≤ 200) ∧ wr = w) (fun i _ => l.length - (intOf i).toNat)
  case atStart => exact ⟨0, Nat.zero_le _, rfl, by simp, rfl⟩
  case round =>
    obtain ⟨k, hk, rfl, hall, rfl⟩ := hrel
    have Hall := Lib.hid hall
    clear hall
    by_cases hlt : k < l.length
    · obtain ⟨b, o, rfl, -, hb, hc⟩ := Hat.out (by omega)
      obtain ⟨t, ht⟩ : ∃ t, l[k]? = some t := ⟨_, List.getElem?_eq_getElem hlt⟩
      have hce := hc k _ (texts_at ht)
      have hk0 : (0 : Int) ≤ (k : Int) := by omega
      have hk1 : (k : Int) < (l.length : Int) := by omega
      have Ht := Lib.hid ht
      have hsz : (mk t).size = t.length := mk_len t
      by_cases h3 : t.length ≤ 200
      · have hb3 : decide (200 < ((mk t).size : Int)) = false := by rw [hsz]; simp; omega
        have hb4 : ¬ (200 < ((mk t).size : Int)) := by rw [hsz]; omega
        have hb5 : ¬ (200 < (mk t).size) := by rw [hsz]; omega
        have H3 := Lib.hid h3
        clear h3 ht hc hsz
        generalize mk t = x at *
        go_wp2_with fail
        refine ⟨⟨k + 1, by omega, rfl, ?_, by first | rfl | trivial⟩, ?_⟩
        · intro y hy
          obtain ⟨hil, he⟩ := List.getElem?_eq_some_iff.1 Ht.out
          rw [List.take_succ_eq_append_getElem hil, List.mem_append] at hy
          rcases hy with hy | hy
          · exact Hall.out y hy
          · simp at hy
            rw [hy, he]; exact H3.out
        · show l.length - ((k : Int) + 1).toNat < l.length - (k : Int).toNat
          omega
      · have hb3 : decide (200 < ((mk t).size : Int)) = true := by rw [hsz]; simp; omega
        have hb4 : (200 < ((mk t).size : Int)) := by rw [hsz]; omega
        have hb5 : (200 < (mk t).size) := by rw [hsz]; omega
        have hd : Hid (decide (Slight l) = false) := Lib.hid (decide_eq_false (fun e => h3 (e.1 t (List.mem_of_getElem? ht))))
        clear h3 ht hc hsz
        generalize mk t = x at *
        go_wp2_with fail
        go_ret
        exact ⟨by rw [hd.out]; rfl, rfl⟩
    · obtain rfl : k = l.length := by omega
      have hd : Hid (decide (Slight l) = decide ((l.length : Int) ≤ 12)) := Lib.hid (by
        have h1 := Hall.out
        rw [List.take_length] at h1
        rw [decide_eq_decide]
        exact ⟨fun e => by have := e.2; omega, fun e => ⟨h1, by omega⟩⟩)
      go_wp2_with fail
      go_ret
      exact ⟨by rw [hd.out]; rfl, rfl⟩

set_option maxRecDepth 100000 in
theorem Jnl.stringCells : Try.prog.cellsOf 9 = 1 := by kernel_rfl

set_option maxRecDepth 100000 in
theorem Jnl.in_heap {W : World} {a : Addr} {v : Value} (h : W.cell? a = some v) : a.block < W.heap.size ∧ a.spot = none := by
  refine ⟨World.block_lt_of_cell? W a h, ?_⟩
  exact World.cell?_spot h

set_option maxRecDepth 100000 in
/-- From 'for each index there is one' to a list. -/
theorem Jnl.list_of {α : Type} {p : Nat → α → Prop} : ∀ n, (∀ i, i < n → ∃ x, p i x) → ∃ l : List α, l.length = n ∧ ∀ i x, l[i]? = some x → p i x
  | 0, _ => ⟨[], rfl, fun i x h => by simp at h⟩
  | n + 1, h => by
    obtain ⟨l, hl, hp⟩ := Jnl.list_of n (fun i hi => h i (by omega))
    obtain ⟨x, hx⟩ := h n (by omega)
    refine ⟨l ++ [x], by simp [hl], fun i y hy => ?_⟩
    by_cases hi : i < n
    · rw [List.getElem?_append_left (by omega)] at hy
      exact hp i y hy
    · have hin : i < (l ++ [x]).length := (List.getElem?_eq_some_iff.1 hy).1
      have : i = n := by simp [hl] at hin; omega
      subst this
      rw [List.getElem?_append_right (by omega), hl, Nat.sub_self] at hy
      simp at hy
      rw [← hy]; exact hx

section
variable {H : Type} {enc : TypeId × Value → H}

set_option maxRecDepth 100000 in
theorem open_line {W : World} {v : Value} {d : DataW H} {p : List MemPlace} (hv : ∃ a len cap, v = .slice a len cap) (h : DataW.Trod enc Try.prog W 0 (fun _ => true) true 30 v d p) :
    ∃ l : List (List UInt8), Cells W (fun i => i < W.heap.size) v (texts l) ∧ l.length ≤ 9223372036854775807 := by
  obtain ⟨A, len, cap, rfl⟩ := hv
  obtain ⟨fuel, hf⟩ := h
  rcases open_slice Try.underlying30 hf with ⟨hcs, _⟩ | ⟨a, len', cap', m, n', D, Pl, hcs, _, hl, hm, hmm, _, hi⟩
  · simp [Value.cells] at hcs
    obtain ⟨rfl, rfl, rfl⟩ := hcs
    exact ⟨[], Cells.none _ _, by simp⟩
  · simp [Value.cells] at hcs
    obtain ⟨rfl, rfl, rfl⟩ := hcs
    simp at hmm
    unfold maxLen at hm
    have hcell : ∀ i, i < len → ∃ t : List UInt8, W.cell? (a.add i) = some (.string (mk t)) := by
      intro i hil
      obtain ⟨cs', hc, ht⟩ := hi i (by omega)
      rw [Jnl.stringCells] at hc
      obtain ⟨x, hx, _, _⟩ := DataW.trod_string Try.underlying9 ht
      obtain ⟨_, _, hat⟩ := World.cells?_some hc
      have h0 := hat 0 (by omega)
      rw [hx, Nat.mul_one, Go.Deep.add_add] at h0
      exact ⟨x.data.toList, by rw [mk_of]; simpa using h0⟩
    obtain ⟨l, hll, hlp⟩ := Jnl.list_of len hcell
    refine ⟨l, ⟨some a, cap, by rw [texts_len, hll], by rw [texts_len, hll]; exact hl, fun hpos => ?_⟩, by omega⟩
    rw [texts_len, hll] at hpos
    obtain ⟨x0, h0⟩ := hcell 0 hpos
    have hb := Jnl.in_heap h0
    obtain ⟨b, off, spot⟩ := a
    have hs : spot = none := by simpa [Addr.add] using hb.2
    subst hs
    have hb1 : b < W.heap.size := by simpa [Addr.add] using hb.1
    refine ⟨b, off, rfl, hb1, hb1, fun i u hu => ?_⟩
    unfold texts at hu
    rw [List.getElem?_map] at hu
    cases hli : l[i]? with
    | none => rw [hli] at hu; simp at hu
    | some x =>
      rw [hli] at hu
      simp at hu
      rw [← hu, ← Go.WideShapes.add_plain]
      exact hlp i x hli
end
end Go.Proofs.Ytcgplonnhginiaa
/- What came in to layer 5's laws, opened: lists of lists of texts, and acts. -/
set_option linter.unusedSimpArgs false
set_option linter.unusedVariables false
namespace Go.Proofs.Ytcgplonnhginiaa
open Go.ChangeShapes Go.WideShapes Go.ChangeAt Go.RowKit Go.Deep

set_option maxRecDepth 100000 in
theorem Jnl.intCells : Try.prog.cellsOf 3 = 1 := by kernel_rfl
set_option maxRecDepth 100000 in
theorem Jnl.boolCells : Try.prog.cellsOf 4 = 1 := by kernel_rfl
set_option maxRecDepth 100000 in
theorem Jnl.lineCells : Try.prog.cellsOf 30 = 1 := by kernel_rfl
set_option maxRecDepth 100000 in
theorem Jnl.intsCells : Try.prog.cellsOf 33 = 1 := by kernel_rfl
set_option maxRecDepth 100000 in
theorem Jnl.actCells : Try.prog.cellsOf 35 = 5 := by kernel_rfl

/-- A list of texts that lies somewhere. -/
structure Ln where
  A : Option Addr
  len : Nat
  cap : Nat
  ts : List (List UInt8)

def Ln.v (x : Ln) : Value := .slice x.A x.len x.cap

structure Ln.Ok (W : World) (x : Ln) : Prop where
  cells : Cells W (fun i => i < W.heap.size) x.v (texts x.ts)
  len : x.ts.length ≤ 9223372036854775807

/-- Lists of texts that came in. -/
def LinesIn (W : World) (A : Option Addr) (len : Nat) (l : List Ln) : Prop :=
  l.length = len ∧ (∀ a ∈ l, a.Ok W) ∧ (0 < len → ∃ b off, A = some ⟨b, off, none⟩ ∧ b < W.heap.size ∧ ∀ i a, l[i]? = some a → W.cell? ⟨b, off + i, none⟩ = some a.v)

/-- An act. -/
structure An where
  rw : Bool
  ag : Bool
  ln : Ln
  arm : Int
  kA : Option Addr
  kn : Nat
  kc : Nat
  ks : List Int

structure An.Ok (W : World) (a : An) : Prop where
  ln : a.ln.Ok W
  keep : Cells W (fun i => i < W.heap.size) (.slice a.kA a.kn a.kc) (a.ks.map (Value.int .i64))
  each : ∀ x ∈ a.ks, -9223372036854775808 ≤ x ∧ x ≤ 9223372036854775807
  few : a.ks.length ≤ 9223372036854775807
  low : -9223372036854775808 ≤ a.arm
  high : a.arm ≤ 9223372036854775807

def AnsIn (W : World) (A : Option Addr) (len : Nat) (l : List An) : Prop :=
  l.length = len ∧ (∀ a ∈ l, a.Ok W) ∧ (0 < len → ∃ b off, A = some ⟨b, off, none⟩ ∧ b < W.heap.size ∧
    ∀ i a, l[i]? = some a → W.cell? ⟨b, off + i * 5, none⟩ = some (.bool a.rw) ∧ W.cell? ⟨b, off + i * 5 + 1, none⟩ = some (.bool a.ag) ∧ W.cell? ⟨b, off + i * 5 + 2, none⟩ = some a.ln.v ∧ W.cell? ⟨b, off + i * 5 + 3, none⟩ = some (.int .i64 a.arm) ∧ W.cell? ⟨b, off + i * 5 + 4, none⟩ = some (.slice a.kA a.kn a.kc))

section
variable {H : Type} {enc : TypeId × Value → H}

set_option maxRecDepth 100000 in
theorem open_keeps {W : World} {c : Value} {n : Nat} {d : DataW H × List MemPlace} (h : DataW.trod enc Try.prog W 0 (fun _ => true) true n 33 [c] = some d) :
    ∃ A len cap, ∃ ks : List Int, c = .slice A len cap ∧ Cells W (fun i => i < W.heap.size) c (ks.map (Value.int .i64)) ∧ ((∀ x ∈ ks, -9223372036854775808 ≤ x ∧ x ≤ 9223372036854775807) ∧ ks.length ≤ 9223372036854775807) ∧ ks.length = len := by
  obtain ⟨d, pl⟩ := d
  rcases open_slice Try.underlying33 h with ⟨hcs, _⟩ | ⟨a, len', cap', m, n', D, Pl, hcs, _, hl, hm, hmm, _, hi⟩
  · simp at hcs
    exact ⟨none, 0, 0, [], hcs, by rw [hcs]; exact Cells.none _ _, ⟨by simp, by simp⟩, rfl⟩
  · simp at hcs
    subst hcs
    simp at hmm
    unfold maxLen at hm
    have hcell : ∀ i, i < len' → ∃ x : Int, W.cell? (a.add i) = some (.int .i64 x) ∧ -9223372036854775808 ≤ x ∧ x ≤ 9223372036854775807 := by
      intro i hil
      obtain ⟨cs', hc, ht⟩ := hi i (by omega)
      rw [Jnl.intCells] at hc
      obtain ⟨x, hx, _, hwx⟩ := DataW.trod_int Try.underlying3 ht
      obtain ⟨_, _, hat⟩ := World.cells?_some hc
      have h0 := hat 0 (by omega)
      rw [hx, Nat.mul_one, Go.Deep.add_add] at h0
      have bx := bounds_i64 hwx
      exact ⟨x, by simpa using h0, by omega, by omega⟩
    obtain ⟨l, hll, hlp⟩ := Jnl.list_of len' hcell
    refine ⟨some a, len', cap', l, rfl, ⟨some a, cap', by rw [List.length_map, hll], by rw [List.length_map, hll]; exact hl, fun hpos => ?_⟩, ⟨fun x hx => ?_, by omega⟩, hll⟩
    · rw [List.length_map, hll] at hpos
      obtain ⟨x0, h0, _⟩ := hcell 0 hpos
      have hb := Jnl.in_heap h0
      obtain ⟨b, off, spot⟩ := a
      have hs : spot = none := by simpa [Addr.add] using hb.2
      subst hs
      have hb1 : b < W.heap.size := by simpa [Addr.add] using hb.1
      refine ⟨b, off, rfl, hb1, hb1, fun i u hu => ?_⟩
      rw [List.getElem?_map] at hu
      cases hli : l[i]? with
      | none => rw [hli] at hu; simp at hu
      | some x =>
        rw [hli] at hu
        simp at hu
        rw [← hu, ← Go.WideShapes.add_plain]
        exact (hlp i x hli).1
    · obtain ⟨i, hil, rfl⟩ := List.getElem_of_mem hx
      exact (hlp i _ (List.getElem?_eq_getElem hil)).2


set_option maxRecDepth 100000 in
theorem open_ln {W : World} {c : Value} {n : Nat} {d : DataW H × List MemPlace} (h : DataW.trod enc Try.prog W 0 (fun _ => true) true n 30 [c] = some d) : ∃ x : Ln, c = x.v ∧ x.Ok W := by
  have hs : ∃ a len cap, c = .slice a len cap := by
    obtain ⟨d, pl⟩ := d
    rcases open_slice Try.underlying30 h with ⟨hcs, _⟩ | ⟨a, len', cap', m, n', D, Pl, hcs, _, hl, hm, hmm, _, hi⟩
    · simp at hcs; exact ⟨_, _, _, hcs⟩
    · simp at hcs; exact ⟨_, _, _, hcs⟩
  obtain ⟨A, len, cap, rfl⟩ := hs
  obtain ⟨d, pl⟩ := d
  obtain ⟨l, h1, h2⟩ := open_line (d := d) (p := pl) ⟨A, len, cap, rfl⟩ ⟨n, by simpa [Value.cells] using h⟩
  exact ⟨⟨A, len, cap, l⟩, rfl, h1, h2⟩

set_option maxRecDepth 100000 in
theorem open_lines {W : World} {v : Value} {d : DataW H} {p : List MemPlace} (hv : ∃ a len cap, v = .slice a len cap) (h : DataW.Trod enc Try.prog W 0 (fun _ => true) true 42 v d p) :
    ∃ A len cap l, v = .slice A len cap ∧ len ≤ cap ∧ len ≤ 9223372036854775807 ∧ LinesIn W A len l := by
  obtain ⟨A, len, cap, rfl⟩ := hv
  obtain ⟨fuel, hf⟩ := h
  rcases open_slice Try.underlying42 hf with ⟨hcs, _⟩ | ⟨a, len', cap', m, n, D, Pl, hcs, _, hl, hm, hmm, _, hi⟩
  · simp [Value.cells] at hcs
    obtain ⟨rfl, rfl, rfl⟩ := hcs
    exact ⟨none, 0, 0, [], rfl, Nat.le_refl _, by omega, rfl, (fun a ha => by cases ha), fun h => absurd h (by omega)⟩
  · simp [Value.cells] at hcs
    obtain ⟨rfl, rfl, rfl⟩ := hcs
    simp at hmm
    unfold maxLen at hm
    have hcell : ∀ i, i < len → ∃ f : Ln, W.cell? (a.add i) = some f.v ∧ f.Ok W := by
      intro i hil
      obtain ⟨cs', hc, ht⟩ := hi i (by omega)
      rw [Jnl.lineCells] at hc
      obtain ⟨_, hcl, hat⟩ := World.cells?_some hc
      match cs', hcl with
      | [c0], _ =>
        obtain ⟨x, e0, hok⟩ := open_ln (c := c0) ht
        have h0 := hat 0 (by omega)
        rw [Nat.mul_one, Go.Deep.add_add] at h0
        exact ⟨x, by rw [← e0]; exact h0, hok⟩
    obtain ⟨fs, hfl, hfp⟩ := Jnl.list_of len hcell
    refine ⟨some a, len, cap, fs, rfl, hl, by omega, hfl, fun f hf => ?_, fun hpos => ?_⟩
    · obtain ⟨i, hil, rfl⟩ := List.getElem_of_mem hf
      exact (hfp i _ (List.getElem?_eq_getElem hil)).2
    · obtain ⟨f0, h0, _⟩ := hcell 0 hpos
      have hb := Jnl.in_heap h0
      obtain ⟨b, off, spot⟩ := a
      have hs : spot = none := by simpa [Addr.add] using hb.2
      subst hs
      refine ⟨b, off, rfl, by simpa [Addr.add] using hb.1, fun i f hf => ?_⟩
      have := (hfp i f hf).1
      rw [Go.WideShapes.add_plain] at this
      exact this

set_option maxRecDepth 100000 in
theorem open_ans {W : World} {v : Value} {d : DataW H} {p : List MemPlace} (hv : ∃ a len cap, v = .slice a len cap) (h : DataW.Trod enc Try.prog W 0 (fun _ => true) true 22 v d p) :
    ∃ A len cap l, v = .slice A len cap ∧ len ≤ cap ∧ len ≤ 9223372036854775807 ∧ AnsIn W A len l := by
  obtain ⟨A, len, cap, rfl⟩ := hv
  obtain ⟨fuel, hf⟩ := h
  rcases open_slice Try.underlying22 hf with ⟨hcs, _⟩ | ⟨a, len', cap', m, n, D, Pl, hcs, _, hl, hm, hmm, _, hi⟩
  · simp [Value.cells] at hcs
    obtain ⟨rfl, rfl, rfl⟩ := hcs
    exact ⟨none, 0, 0, [], rfl, Nat.le_refl _, by omega, rfl, (fun a ha => by cases ha), fun h => absurd h (by omega)⟩
  · simp [Value.cells] at hcs
    obtain ⟨rfl, rfl, rfl⟩ := hcs
    simp at hmm
    unfold maxLen at hm
    have hcell : ∀ i, i < len → ∃ f : An, (W.cell? (a.add (i * 5)) = some (.bool f.rw) ∧ W.cell? (a.add (i * 5 + 1)) = some (.bool f.ag) ∧ W.cell? (a.add (i * 5 + 2)) = some f.ln.v ∧ W.cell? (a.add (i * 5 + 3)) = some (.int .i64 f.arm) ∧
        W.cell? (a.add (i * 5 + 4)) = some (.slice f.kA f.kn f.kc)) ∧ f.Ok W := by
      intro i hil
      obtain ⟨cs', hc, ht⟩ := hi i (by omega)
      rw [Jnl.actCells] at hc
      obtain ⟨_, hcl, hat⟩ := World.cells?_some hc
      obtain ⟨xs, n', _, _, _, hxs, hfs⟩ := DataW.trod_struct Try.underlying35 ht
      match cs', hcl with
      | [c0, c1, c2, c3, c4], _ =>
        have hl3 : xs.length = 5 := hxs
        have k0 : DataW.trod enc Try.prog W 0 (fun _ => true) true n' 4 (([c0, c1, c2, c3, c4].drop 0).take (Try.prog.cellsOf 4)) = xs[0]? := hfs 0 _ rfl
        have k1 : DataW.trod enc Try.prog W 0 (fun _ => true) true n' 4 (([c0, c1, c2, c3, c4].drop 1).take (Try.prog.cellsOf 4)) = xs[1]? := hfs 1 _ rfl
        have k2 : DataW.trod enc Try.prog W 0 (fun _ => true) true n' 30 (([c0, c1, c2, c3, c4].drop 2).take (Try.prog.cellsOf 30)) = xs[2]? := hfs 2 _ rfl
        have k3 : DataW.trod enc Try.prog W 0 (fun _ => true) true n' 3 (([c0, c1, c2, c3, c4].drop 3).take (Try.prog.cellsOf 3)) = xs[3]? := hfs 3 _ rfl
        have k4 : DataW.trod enc Try.prog W 0 (fun _ => true) true n' 33 (([c0, c1, c2, c3, c4].drop 4).take (Try.prog.cellsOf 33)) = xs[4]? := hfs 4 _ rfl
        rw [Jnl.boolCells, List.getElem?_eq_getElem (by omega)] at k0 k1
        rw [Jnl.lineCells, List.getElem?_eq_getElem (by omega)] at k2
        rw [Jnl.intCells, List.getElem?_eq_getElem (by omega)] at k3
        rw [Jnl.intsCells, List.getElem?_eq_getElem (by omega)] at k4
        obtain ⟨x0, e0, _⟩ := DataW.trod_bool Try.underlying4 k0
        obtain ⟨x1, e1, _⟩ := DataW.trod_bool Try.underlying4 k1
        obtain ⟨x2, e2, o2⟩ := open_ln (c := c2) k2
        obtain ⟨x3, e3, _, w3⟩ := DataW.trod_int Try.underlying3 k3
        obtain ⟨kA, kn, kc, ks, e4, q1, q2, q3⟩ := open_keeps (c := c4) k4
        have e0 : c0 = .bool x0 := by simpa using e0
        have e1 : c1 = .bool x1 := by simpa using e1
        have e3 : c3 = .int .i64 x3 := by simpa using e3
        have b3 := bounds_i64 w3
        rw [e4] at q1
        refine ⟨⟨x0, x1, x2, x3, kA, kn, kc, ks⟩, ⟨?_, ?_, ?_, ?_, ?_⟩, ⟨o2, q1, q2.1, q2.2, by show -9223372036854775808 ≤ x3; omega, by show x3 ≤ 9223372036854775807; omega⟩⟩
        · have := hat 0 (by omega)
          rw [e0, Go.Deep.add_add] at this
          exact this
        · have := hat 1 (by omega)
          rw [e1, Go.Deep.add_add] at this
          exact this
        · have := hat 2 (by omega)
          rw [← e2]
          rw [Go.Deep.add_add] at this
          exact this
        · have := hat 3 (by omega)
          rw [e3, Go.Deep.add_add] at this
          exact this
        · have := hat 4 (by omega)
          rw [e4, Go.Deep.add_add] at this
          exact this
    obtain ⟨fs, hfl, hfp⟩ := Jnl.list_of len hcell
    refine ⟨some a, len, cap, fs, rfl, hl, by omega, hfl, fun f hf => ?_, fun hpos => ?_⟩
    · obtain ⟨i, hil, rfl⟩ := List.getElem_of_mem hf
      exact (hfp i _ (List.getElem?_eq_getElem hil)).2
    · obtain ⟨f0, h0, _⟩ := hcell 0 hpos
      have hb := Jnl.in_heap h0.1
      obtain ⟨b, off, spot⟩ := a
      have hs : spot = none := by simpa [Addr.add] using hb.2
      subst hs
      refine ⟨b, off, rfl, by simpa [Addr.add] using hb.1, fun i f hf => ?_⟩
      have := (hfp i f hf).1
      rw [Go.WideShapes.add_plain, Go.WideShapes.add_plain, Go.WideShapes.add_plain, Go.WideShapes.add_plain, Go.WideShapes.add_plain] at this
      simp only [← Nat.add_assoc] at this
      exact this
end
end Go.Proofs.Ytcgplonnhginiaa
/- The document's own answer of layer 3: a text filled up. -/
namespace Go.Proofs.Ytcgplonnhginiaa
open Go.RowKit

def padded (s : ByteArray) (k : Nat) : ByteArray := ⟨s.data ++ Array.replicate k 0⟩

set_option maxRecDepth 100000 in
theorem padded_size (s : ByteArray) (k : Nat) : (padded s k).size = s.size + k := by
  show (s.data ++ Array.replicate k 0).size = _
  rw [Array.size_append, Array.size_replicate]; rfl

set_option maxRecDepth 100000 in
theorem padded_more (s : ByteArray) (k : Nat) : padded s k ++ ⟨#[0]⟩ = padded s (k + 1) := by
  apply ByteArray.ext
  rw [ByteArray.data_append]
  show (s.data ++ Array.replicate k 0) ++ #[0] = s.data ++ Array.replicate (k + 1) 0
  rw [Array.append_assoc, Array.replicate_succ]
  rfl

def roomOf : Value → Nat
  | .string b => 64 - b.size
  | _ => 0

set_option maxRecDepth 100000 in
theorem ref_fill (s : ByteArray) (w : World) (hs : s.size ≤ 64) : Calls Try.prog 23 #[.string s] w fun e w' => e = .returned (.string (Dsk.fill s)) ∧ w = w' := by
  have h0 : padded s 0 = s := by
    apply ByteArray.ext
    show s.data ++ Array.replicate 0 0 = s.data
    simp
  have h1 : padded s (64 - s.size) = Dsk.fill s := rfl
  have H0 := Lib.hid h0
  have H1 := Lib.hid h1
  have hsi : (s.size : Int) ≤ 64 := by omega
  have hm := padded_more s
  have Hm := Lib.hid hm
  clear h0 h1 hm
  go_enter Try.func23, Try.ntmps23
  go_wp2_with fail
  go_loop [0] (fun t => ∃ k : Nat, k ≤ 64 - s.size ∧ t = .string (padded s k)) (fun t => roomOf t)
  case atStart => exact ⟨0, Nat.zero_le _, by rw [H0.out]⟩
  case round =>
    obtain ⟨k, hk, rfl⟩ := hrel
    have hsz := padded_size s k
    have Hsz := Lib.hid hsz
    have hn := Hm.out k
    by_cases hlt : s.size + k < 64
    · have hb : decide (((padded s k).size : Int) < 64) = true := by simp; omega
      have hc : ¬ 9223372036854775807 < (padded s k).size + 1 := by omega
      clear hsz
      go_wp2_with fail
      have e := padded_size s (k + 1)
      exact ⟨⟨k + 1, by omega, rfl⟩, by show 64 - (padded s (k + 1)).size < 64 - (padded s k).size; rw [Hsz.out, e]; omega⟩
    · have hb : decide (((padded s k).size : Int) < 64) = false := by simp; omega
      have hk2 : Hid (padded s k = Dsk.fill s) := Lib.hid (by rw [← H1.out]; congr 1; omega)
      clear hsz hn
      go_wp2_with fail
      go_ret
      exact ⟨by rw [hk2.out]; rfl, rfl⟩
end Go.Proofs.Ytcgplonnhginiaa
/- What the disk's texts share: what a call may do, the numbers that a slice holds. -/
namespace Go.Proofs.Ytcgplonnhginiaa
open Go.RowKit Dsk

/-- The numbers that a slice of ints may hold. -/
def Ints64 (ks : List Int) : Prop := (∀ x ∈ ks, -9223372036854775808 ≤ x ∧ x ≤ 9223372036854775807) ∧ ks.length ≤ 9223372036854775807

def New (w w' : World) (k : Nat) : Prop := w.heap.size ≤ k ∧ k < w'.heap.size

/-- What a call on a disk may do: the disk's own blocks, and new ones. -/
def Does (At : World → (Nat → Prop) → Value → D → Prop) (w : World) (F : Nat → Prop) (v : Value) (d : D) (w' : World) : Prop := At w' (Grow F w w') v d ∧ Kept F w w'

set_option maxRecDepth 100000 in
theorem intInfo : (Try.prog.info? 3).map (fun i => (i.zero, i.size, i.bytes)) = some (some (.int .i64 0), 1, 8) := by kernel_rfl

def nats (l : List Nat) : List Value := l.map fun (n : Nat) => Value.int .i64 (n : Int)

/-- The call's own slice holds these numbers. -/
def NatsAt (w : World) (out : List Nat) (v : Value) (wr : World) : Prop := wr.ownsRow w.heap.size 3 1 v out.length (nats out) ∧ Below w.heap.size w wr

set_option maxRecDepth 100000 in
theorem nats_start (w : World) : NatsAt w [] (.slice none 0 0) w := ⟨World.ownsRow_nil _ _ _ _, Below.refl _ _⟩

set_option maxRecDepth 100000 in
theorem own_from_ref {w : World} {base t size n : Nat} {v : Value} {xs : List Value} (h : w.ownsRow base t size v n xs) : ∀ k, v.ownBlock = some k → base ≤ k := fun k hk => (h.lt k hk).1

set_option maxRecDepth 100000 in
theorem nats_more {w wr w2 : World} {out : List Nat} {v v' : Value} {o : Obj} {x : Nat} (h : NatsAt w out v wr) (hown : w2.ownsRow w.heap.size 3 1 v' (out.length + 1) (nats out ++ [.int .i64 (x : Int)])) (hg : (wr.alloc o).grownBy w2 v.ownBlock) :
    NatsAt w (out ++ [x]) v' w2 := by
  obtain ⟨h1, h2⟩ := h
  refine ⟨?_, (h2.alloc h2.size o).grown hg (by have := h2.size; simp; omega) (fun k hk => own_from_ref h1 k hk)⟩
  rw [List.length_append]
  simpa [nats] using hown
end Go.Proofs.Ytcgplonnhginiaa
