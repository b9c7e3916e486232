/- All of a transaction is kept, or none: StoreKeeps's statement holds. -/
import Derived.Test.YtbfjageaheijbaaGreatCom7
import Derived.Test.YtbfjageaheijbaaGreatCom1
import Derived.Test.YtbfjageaheijbaaGreatCom41
import Derived.Test.YtbfjageaheijbaaGreatCom42
import Derived.Test.YtbfjageaheijbaaGreatCom40
import Derived.Deep.Slices
import Derived.Deep.Fields
/- Layer 5: lists that are not far too long; lists of texts that came in. -/
set_option linter.unusedSimpArgs false
set_option linter.unusedVariables false
namespace Go.Proofs.YtbfjageaheijbaaGreat
open Go.ChangeShapes Go.WideShapes Go.ChangeAt Go.RowKit Go.Deep

/-- Records that are not far too long. -/
def Slight (l : List (List UInt8)) : Prop := (∀ t ∈ l, t.length ≤ 200) ∧ l.length ≤ 12
instance (l : List (List UInt8)) : Decidable (Slight l) := inferInstanceAs (Decidable (_ ∧ _))

set_option maxRecDepth 100000 in
theorem Jnl.stringCells : Tryz.prog.cellsOf 9 = 1 := by kernel_rfl

set_option maxRecDepth 100000 in
theorem Jnl.in_heap {W : World} {a : Addr} {v : Value} (h : W.cell? a = some v) : a.block < W.heap.size ∧ a.spot = none := by
  refine ⟨World.block_lt_of_cell? W a h, ?_⟩
  exact World.cell?_spot h

set_option maxRecDepth 100000 in
/-- From 'for each index there is one' to a list. -/
theorem Jnl.list_of {α : Type} {p : Nat → α → Prop} : ∀ n, (∀ i, i < n → ∃ x, p i x) → ∃ l : List α, l.length = n ∧ ∀ i x, l[i]? = some x → p i x
  | 0, _ => ⟨[], rfl, fun i x h => by simp at h⟩
  | n + 1, h => by
    obtain ⟨l, hl, hp⟩ := Jnl.list_of n (fun i hi => h i (by omega))
    obtain ⟨x, hx⟩ := h n (by omega)
    refine ⟨l ++ [x], by simp [hl], fun i y hy => ?_⟩
    by_cases hi : i < n
    · rw [List.getElem?_append_left (by omega)] at hy
      exact hp i y hy
    · have hin : i < (l ++ [x]).length := (List.getElem?_eq_some_iff.1 hy).1
      have : i = n := by simp [hl] at hin; omega
      subst this
      rw [List.getElem?_append_right (by omega), hl, Nat.sub_self] at hy
      simp at hy
      rw [← hy]; exact hx

section
variable {H : Type} {enc : TypeId × Value → H}

set_option maxRecDepth 100000 in
theorem open_line {W : World} {v : Value} {d : DataW H} {p : List MemPlace} (hv : ∃ a len cap, v = .slice a len cap) (h : DataW.Trod enc Tryz.prog W 0 (fun _ => true) true 55 v d p) :
    ∃ l : List (List UInt8), Cells W (fun i => i < W.heap.size) v (texts l) ∧ l.length ≤ 9223372036854775807 := by
  obtain ⟨A, len, cap, rfl⟩ := hv
  obtain ⟨fuel, hf⟩ := h
  rcases open_slice Tryz.underlying55 hf with ⟨hcs, _⟩ | ⟨a, len', cap', m, n', D, Pl, hcs, _, hl, hm, hmm, _, hi⟩
  · simp [Value.cells] at hcs
    obtain ⟨rfl, rfl, rfl⟩ := hcs
    exact ⟨[], Cells.none _ _, by simp⟩
  · simp [Value.cells] at hcs
    obtain ⟨rfl, rfl, rfl⟩ := hcs
    simp at hmm
    unfold maxLen at hm
    have hcell : ∀ i, i < len → ∃ t : List UInt8, W.cell? (a.add i) = some (.string (mk t)) := by
      intro i hil
      obtain ⟨cs', hc, ht⟩ := hi i (by omega)
      rw [Jnl.stringCells] at hc
      obtain ⟨x, hx, _, _⟩ := DataW.trod_string Tryz.underlying9 ht
      obtain ⟨_, _, hat⟩ := World.cells?_some hc
      have h0 := hat 0 (by omega)
      rw [hx, Nat.mul_one, Go.Deep.add_add] at h0
      exact ⟨x.data.toList, by rw [mk_of]; simpa using h0⟩
    obtain ⟨l, hll, hlp⟩ := Jnl.list_of len hcell
    refine ⟨l, ⟨some a, cap, by rw [texts_len, hll], by rw [texts_len, hll]; exact hl, fun hpos => ?_⟩, by omega⟩
    rw [texts_len, hll] at hpos
    obtain ⟨x0, h0⟩ := hcell 0 hpos
    have hb := Jnl.in_heap h0
    obtain ⟨b, off, spot⟩ := a
    have hs : spot = none := by simpa [Addr.add] using hb.2
    subst hs
    have hb1 : b < W.heap.size := by simpa [Addr.add] using hb.1
    refine ⟨b, off, rfl, hb1, hb1, fun i u hu => ?_⟩
    unfold texts at hu
    rw [List.getElem?_map] at hu
    cases hli : l[i]? with
    | none => rw [hli] at hu; simp at hu
    | some x =>
      rw [hli] at hu
      simp at hu
      rw [← hu, ← Go.WideShapes.add_plain]
      exact hlp i x hli
end
end Go.Proofs.YtbfjageaheijbaaGreat
/- What came in to layer 5's laws, opened: lists of lists of texts, and acts. -/
set_option linter.unusedSimpArgs false
set_option linter.unusedVariables false
namespace Go.Proofs.YtbfjageaheijbaaGreat
open Go.ChangeShapes Go.WideShapes Go.ChangeAt Go.RowKit Go.Deep

set_option maxRecDepth 100000 in
theorem Jnl.intCells : Tryz.prog.cellsOf 3 = 1 := by kernel_rfl
set_option maxRecDepth 100000 in
theorem Jnl.boolCells : Tryz.prog.cellsOf 4 = 1 := by kernel_rfl
set_option maxRecDepth 100000 in
theorem Jnl.lineCells : Tryz.prog.cellsOf 55 = 1 := by kernel_rfl
set_option maxRecDepth 100000 in
theorem Jnl.intsCells : Tryz.prog.cellsOf 34 = 1 := by kernel_rfl
/-- A list of texts that lies somewhere. -/
structure Ln where
  A : Option Addr
  len : Nat
  cap : Nat
  ts : List (List UInt8)

def Ln.v (x : Ln) : Value := .slice x.A x.len x.cap

structure Ln.Ok (W : World) (x : Ln) : Prop where
  cells : Cells W (fun i => i < W.heap.size) x.v (texts x.ts)
  len : x.ts.length ≤ 9223372036854775807

/-- Lists of texts that came in. -/
def LinesIn (W : World) (A : Option Addr) (len : Nat) (l : List Ln) : Prop :=
  l.length = len ∧ (∀ a ∈ l, a.Ok W) ∧ (0 < len → ∃ b off, A = some ⟨b, off, none⟩ ∧ b < W.heap.size ∧ ∀ i a, l[i]? = some a → W.cell? ⟨b, off + i, none⟩ = some a.v)

/-- An act. -/
structure An where
  rw : Bool
  ag : Bool
  ln : Ln
  arm : Int
  kA : Option Addr
  kn : Nat
  kc : Nat
  ks : List Int

structure An.Ok (W : World) (a : An) : Prop where
  ln : a.ln.Ok W
  keep : Cells W (fun i => i < W.heap.size) (.slice a.kA a.kn a.kc) (a.ks.map (Value.int .i64))
  each : ∀ x ∈ a.ks, -9223372036854775808 ≤ x ∧ x ≤ 9223372036854775807
  few : a.ks.length ≤ 9223372036854775807
  low : -9223372036854775808 ≤ a.arm
  high : a.arm ≤ 9223372036854775807

def AnsIn (W : World) (A : Option Addr) (len : Nat) (l : List An) : Prop :=
  l.length = len ∧ (∀ a ∈ l, a.Ok W) ∧ (0 < len → ∃ b off, A = some ⟨b, off, none⟩ ∧ b < W.heap.size ∧
    ∀ i a, l[i]? = some a → W.cell? ⟨b, off + i * 5, none⟩ = some (.bool a.rw) ∧ W.cell? ⟨b, off + i * 5 + 1, none⟩ = some (.bool a.ag) ∧ W.cell? ⟨b, off + i * 5 + 2, none⟩ = some a.ln.v ∧ W.cell? ⟨b, off + i * 5 + 3, none⟩ = some (.int .i64 a.arm) ∧ W.cell? ⟨b, off + i * 5 + 4, none⟩ = some (.slice a.kA a.kn a.kc))

section
variable {H : Type} {enc : TypeId × Value → H}

set_option maxRecDepth 100000 in
theorem open_keeps {W : World} {c : Value} {n : Nat} {d : DataW H × List MemPlace} (h : DataW.trod enc Tryz.prog W 0 (fun _ => true) true n 34 [c] = some d) :
    ∃ A len cap, ∃ ks : List Int, c = .slice A len cap ∧ Cells W (fun i => i < W.heap.size) c (ks.map (Value.int .i64)) ∧ ((∀ x ∈ ks, -9223372036854775808 ≤ x ∧ x ≤ 9223372036854775807) ∧ ks.length ≤ 9223372036854775807) ∧ ks.length = len := by
  obtain ⟨d, pl⟩ := d
  rcases open_slice Tryz.underlying34 h with ⟨hcs, _⟩ | ⟨a, len', cap', m, n', D, Pl, hcs, _, hl, hm, hmm, _, hi⟩
  · simp at hcs
    exact ⟨none, 0, 0, [], hcs, by rw [hcs]; exact Cells.none _ _, ⟨by simp, by simp⟩, rfl⟩
  · simp at hcs
    subst hcs
    simp at hmm
    unfold maxLen at hm
    have hcell : ∀ i, i < len' → ∃ x : Int, W.cell? (a.add i) = some (.int .i64 x) ∧ -9223372036854775808 ≤ x ∧ x ≤ 9223372036854775807 := by
      intro i hil
      obtain ⟨cs', hc, ht⟩ := hi i (by omega)
      rw [Jnl.intCells] at hc
      obtain ⟨x, hx, _, hwx⟩ := DataW.trod_int Tryz.underlying3 ht
      obtain ⟨_, _, hat⟩ := World.cells?_some hc
      have h0 := hat 0 (by omega)
      rw [hx, Nat.mul_one, Go.Deep.add_add] at h0
      have bx := bounds_i64 hwx
      exact ⟨x, by simpa using h0, by omega, by omega⟩
    obtain ⟨l, hll, hlp⟩ := Jnl.list_of len' hcell
    refine ⟨some a, len', cap', l, rfl, ⟨some a, cap', by rw [List.length_map, hll], by rw [List.length_map, hll]; exact hl, fun hpos => ?_⟩, ⟨fun x hx => ?_, by omega⟩, hll⟩
    · rw [List.length_map, hll] at hpos
      obtain ⟨x0, h0, _⟩ := hcell 0 hpos
      have hb := Jnl.in_heap h0
      obtain ⟨b, off, spot⟩ := a
      have hs : spot = none := by simpa [Addr.add] using hb.2
      subst hs
      have hb1 : b < W.heap.size := by simpa [Addr.add] using hb.1
      refine ⟨b, off, rfl, hb1, hb1, fun i u hu => ?_⟩
      rw [List.getElem?_map] at hu
      cases hli : l[i]? with
      | none => rw [hli] at hu; simp at hu
      | some x =>
        rw [hli] at hu
        simp at hu
        rw [← hu, ← Go.WideShapes.add_plain]
        exact (hlp i x hli).1
    · obtain ⟨i, hil, rfl⟩ := List.getElem_of_mem hx
      exact (hlp i _ (List.getElem?_eq_getElem hil)).2


set_option maxRecDepth 100000 in
theorem open_ln {W : World} {c : Value} {n : Nat} {d : DataW H × List MemPlace} (h : DataW.trod enc Tryz.prog W 0 (fun _ => true) true n 55 [c] = some d) : ∃ x : Ln, c = x.v ∧ x.Ok W := by
  have hs : ∃ a len cap, c = .slice a len cap := by
    obtain ⟨d, pl⟩ := d
    rcases open_slice Tryz.underlying55 h with ⟨hcs, _⟩ | ⟨a, len', cap', m, n', D, Pl, hcs, _, hl, hm, hmm, _, hi⟩
    · simp at hcs; exact ⟨_, _, _, hcs⟩
    · simp at hcs; exact ⟨_, _, _, hcs⟩
  obtain ⟨A, len, cap, rfl⟩ := hs
  obtain ⟨d, pl⟩ := d
  obtain ⟨l, h1, h2⟩ := open_line (d := d) (p := pl) ⟨A, len, cap, rfl⟩ ⟨n, by simpa [Value.cells] using h⟩
  exact ⟨⟨A, len, cap, l⟩, rfl, h1, h2⟩

end
end Go.Proofs.YtbfjageaheijbaaGreat
/- What came in to StoreKeeps, opened: acts. -/
set_option linter.unusedSimpArgs false
set_option linter.unusedVariables false
namespace Go.Proofs.YtbfjageaheijbaaGreat
open Go.ChangeShapes Go.WideShapes Go.ChangeAt Go.RowKit Go.Deep

/-- An act. -/
structure Ac where
  l : Lc
  arm : Int
  kA : Option Addr
  kn : Nat
  kc : Nat
  ks : List Int
  ag : Bool

structure Ac.Ok (W : World) (a : Ac) : Prop where
  l : a.l.Ok W
  keep : Cells W (fun i => i < W.heap.size) (.slice a.kA a.kn a.kc) (a.ks.map (Value.int .i64))
  each : ∀ x ∈ a.ks, -9223372036854775808 ≤ x ∧ x ≤ 9223372036854775807
  few : a.ks.length ≤ 9223372036854775807
  low : -9223372036854775808 ≤ a.arm
  high : a.arm ≤ 9223372036854775807

def AcsIn (W : World) (A : Option Addr) (len : Nat) (l : List Ac) : Prop :=
  l.length = len ∧ (∀ a ∈ l, a.Ok W) ∧ (0 < len → ∃ b off, A = some ⟨b, off, none⟩ ∧ b < W.heap.size ∧
    ∀ i a, l[i]? = some a → W.cell? ⟨b, off + i * 4, none⟩ = some a.l.v ∧ W.cell? ⟨b, off + i * 4 + 1, none⟩ = some (.int .i64 a.arm) ∧ W.cell? ⟨b, off + i * 4 + 2, none⟩ = some (.slice a.kA a.kn a.kc) ∧ W.cell? ⟨b, off + i * 4 + 3, none⟩ = some (.bool a.ag))

set_option maxRecDepth 100000 in
theorem Sto.actCells : Tryz.prog.cellsOf 36 = 4 := by kernel_rfl

section
variable {H : Type} {enc : TypeId × Value → H}

set_option maxRecDepth 100000 in
theorem open_acs {W : World} {v : Value} {d : DataW H} {p : List MemPlace} (hv : ∃ a len cap, v = .slice a len cap) (h : DataW.Trod enc Tryz.prog W 0 (fun _ => true) true 22 v d p) :
    ∃ A len cap l, v = .slice A len cap ∧ len ≤ cap ∧ len ≤ 9223372036854775807 ∧ AcsIn W A len l := by
  obtain ⟨A, len, cap, rfl⟩ := hv
  obtain ⟨fuel, hf⟩ := h
  rcases open_slice Tryz.underlying22 hf with ⟨hcs, _⟩ | ⟨a, len', cap', m, n, D, Pl, hcs, _, hl, hm, hmm, _, hi⟩
  · simp [Value.cells] at hcs
    obtain ⟨rfl, rfl, rfl⟩ := hcs
    exact ⟨none, 0, 0, [], rfl, Nat.le_refl _, by omega, rfl, (fun a ha => by cases ha), fun h => absurd h (by omega)⟩
  · simp [Value.cells] at hcs
    obtain ⟨rfl, rfl, rfl⟩ := hcs
    simp at hmm
    unfold maxLen at hm
    have hcell : ∀ i, i < len → ∃ f : Ac, (W.cell? (a.add (i * 4)) = some f.l.v ∧ W.cell? (a.add (i * 4 + 1)) = some (.int .i64 f.arm) ∧ W.cell? (a.add (i * 4 + 2)) = some (.slice f.kA f.kn f.kc) ∧ W.cell? (a.add (i * 4 + 3)) = some (.bool f.ag)) ∧ f.Ok W := by
      intro i hil
      obtain ⟨cs', hc, ht⟩ := hi i (by omega)
      rw [Sto.actCells] at hc
      obtain ⟨_, hcl, hat⟩ := World.cells?_some hc
      obtain ⟨xs, n', _, _, _, hxs, hfs⟩ := DataW.trod_struct Tryz.underlying36 ht
      match cs', hcl with
      | [c0, c1, c2, c3], _ =>
        have hl3 : xs.length = 4 := hxs
        have k0 : DataW.trod enc Tryz.prog W 0 (fun _ => true) true n' 33 (([c0, c1, c2, c3].drop 0).take (Tryz.prog.cellsOf 33)) = xs[0]? := hfs 0 _ rfl
        have k1 : DataW.trod enc Tryz.prog W 0 (fun _ => true) true n' 3 (([c0, c1, c2, c3].drop 1).take (Tryz.prog.cellsOf 3)) = xs[1]? := hfs 1 _ rfl
        have k2 : DataW.trod enc Tryz.prog W 0 (fun _ => true) true n' 34 (([c0, c1, c2, c3].drop 2).take (Tryz.prog.cellsOf 34)) = xs[2]? := hfs 2 _ rfl
        have k3 : DataW.trod enc Tryz.prog W 0 (fun _ => true) true n' 4 (([c0, c1, c2, c3].drop 3).take (Tryz.prog.cellsOf 4)) = xs[3]? := hfs 3 _ rfl
        rw [Sto.chsCells, List.getElem?_eq_getElem (by omega)] at k0
        rw [Jnl.intCells, List.getElem?_eq_getElem (by omega)] at k1
        rw [Jnl.intsCells, List.getElem?_eq_getElem (by omega)] at k2
        rw [Jnl.boolCells, List.getElem?_eq_getElem (by omega)] at k3
        obtain ⟨x0, e0, o0⟩ := open_lc (c := c0) k0
        obtain ⟨x1, e1, _, w1⟩ := DataW.trod_int Tryz.underlying3 k1
        obtain ⟨kA, kn, kc, ks, e2, q1, q2, q3⟩ := open_keeps (c := c2) k2
        obtain ⟨x3, e3, _⟩ := DataW.trod_bool Tryz.underlying4 k3
        have e1 : c1 = .int .i64 x1 := by simpa using e1
        have e3 : c3 = .bool x3 := by simpa using e3
        have b1 := bounds_i64 w1
        rw [e2] at q1
        refine ⟨⟨x0, x1, kA, kn, kc, ks, x3⟩, ⟨?_, ?_, ?_, ?_⟩, ⟨o0, q1, q2.1, q2.2, by show -9223372036854775808 ≤ x1; omega, by show x1 ≤ 9223372036854775807; omega⟩⟩
        · have := hat 0 (by omega)
          rw [e0, Go.Deep.add_add] at this
          exact this
        · have := hat 1 (by omega)
          rw [e1, Go.Deep.add_add] at this
          exact this
        · have := hat 2 (by omega)
          rw [e2, Go.Deep.add_add] at this
          exact this
        · have := hat 3 (by omega)
          rw [e3, Go.Deep.add_add] at this
          exact this
    obtain ⟨fs, hfl, hfp⟩ := Sto.list_of len hcell
    refine ⟨some a, len, cap, fs, rfl, hl, by omega, hfl, fun f hf => ?_, fun hpos => ?_⟩
    · obtain ⟨i, hil, rfl⟩ := List.getElem_of_mem hf
      exact (hfp i _ (List.getElem?_eq_getElem hil)).2
    · obtain ⟨f0, h0, _⟩ := hcell 0 hpos
      have hb := Sto.in_heap h0.1
      obtain ⟨b, off, spot⟩ := a
      have hs : spot = none := by simpa [Addr.add] using hb.2
      subst hs
      refine ⟨b, off, rfl, by simpa [Addr.add] using hb.1, fun i f hf => ?_⟩
      have := (hfp i f hf).1
      rw [Go.WideShapes.add_plain, Go.WideShapes.add_plain, Go.WideShapes.add_plain, Go.WideShapes.add_plain] at this
      simp only [← Nat.add_assoc] at this
      exact this
end
end Go.Proofs.YtbfjageaheijbaaGreat
/- The states of StoreKeeps, and what each call leaves of them. -/
set_option linter.unusedSimpArgs false
set_option linter.unusedVariables false
namespace Go.Proofs.YtbfjageaheijbaaGreat
open Go.RowKit Dsk Jnl

/-- A store, the law's two lists, its copy of the act. -/
structure Q6 (At : World → (Nat → Prop) → Value → D → Prop) (Own : World → (Nat → Prop) → Value → Value → Nat → Sto.Sr → Prop) (W : World) (dv sv : Value) (n : Nat) (d : D) (s : Sto.Sr) (pv : Value) (L : List Sto.Pr) (nv : Value) (M : List Sto.Pr) (ab : Nat) (acs : Array Value) (w : World) : Prop where
  ex : ∃ Z, Sw At Own W Z dv sv n d s w ∧ (∀ i, i < W.heap.size → Z i) ∧ Pairs w Z pv L ∧ Pairs w Z nv M ∧ Row w ab 36 acs ∧ Z ab

section
variable {At : World → (Nat → Prop) → Value → D → Prop} {Own : World → (Nat → Prop) → Value → Value → Nat → Sto.Sr → Prop} {W w w' : World} {dv sv pv nv : Value} {n : Nat} {d d' : D} {s s' : Sto.Sr} {L M : List Sto.Pr} {ab : Nat} {acs : Array Value}

set_option maxRecDepth 100000 in
theorem SameZ.row {Z : Nat → Prop} {b : Nat} {t : TypeId} {cs : Array Value} (h : SameZ Z w w') (hr : Row w b t cs) (hb : Z b) : Row w' b t cs := (h.2 b hb).trans hr

set_option maxRecDepth 100000 in
theorem Q6.bel (h : Q6 At Own W dv sv n d s pv L nv M ab acs w) : Below W.heap.size W w := by
  obtain ⟨Z, h1, -⟩ := h.ex
  exact h1.bel

set_option maxRecDepth 100000 in
theorem Q6.row (h : Q6 At Own W dv sv n d s pv L nv M ab acs w) : Row w ab 36 acs := by
  obtain ⟨Z, -, -, -, -, h5, -⟩ := h.ex
  exact h5

set_option maxRecDepth 100000 in
/-- A round begins: the act is laid into a block of its own. -/
theorem Q6.start (U : DiskUse At) (H : StoreOk At Own) {Z : Nat → Prop} (h : Stands At Own W dv sv n d s pv Z w) (acs : Array Value) (hw : Row w' w.heap.size 36 acs) (hb : Below w.heap.size w w') :
    Q6 At Own W dv sv n d s pv s.vals pv s.vals w.heap.size acs w' := by
  have hlt := hw.inHeap
  exact ⟨⟨fun i => Z i ∨ i = w.heap.size, h.sw.more U H hb (fun i hi => hi.elim Or.inl (fun e => Or.inr (by subst e; exact ⟨Nat.le_refl _, hlt⟩))), fun i hi => Or.inl (h.old i hi), (h.pairs.below hb).mono (fun _ => Or.inl), (h.pairs.below hb).mono (fun _ => Or.inl), hw, Or.inr rfl⟩⟩

set_option maxRecDepth 100000 in
/-- It ends. -/
theorem Q6.stop (h : Q6 At Own W dv sv n d s pv s.vals nv M ab acs w) : ∃ Z, Stands At Own W dv sv n d s pv Z w := by
  obtain ⟨Z, h1, h2, h3, -⟩ := h.ex
  exact ⟨Z, h1, h2, h3⟩

set_option maxRecDepth 100000 in
theorem Q6.same (h : Q6 At Own W dv sv n d s pv L nv M ab acs w) : Q6 At Own W dv sv n d s pv L pv L ab acs w := by
  obtain ⟨Z, h1, h2, h3, h4, h5, h6⟩ := h.ex
  exact ⟨⟨Z, h1, h2, h3, h3, h5, h6⟩⟩

set_option maxRecDepth 100000 in
theorem Q6.turn (h : Q6 At Own W dv sv n d s pv L nv M ab acs w) : Q6 At Own W dv sv n d s nv M nv M ab acs w := by
  obtain ⟨Z, h1, h2, h3, h4, h5, h6⟩ := h.ex
  exact ⟨⟨Z, h1, h2, h4, h4, h5, h6⟩⟩

set_option maxRecDepth 100000 in
theorem Q6.below (U : DiskUse At) (H : StoreOk At Own) (h : Q6 At Own W dv sv n d s pv L nv M ab acs w) (k : Below w.heap.size w w') : Q6 At Own W dv sv n d s pv L nv M ab acs w' := by
  obtain ⟨Z, h1, h2, h3, h4, h5, h6⟩ := h.ex
  exact ⟨⟨Z, (h1.below U H k).1, h2, h3.below k, h4.below k, h5.below k h5.inHeap, h6⟩⟩

set_option maxRecDepth 100000 in
theorem Q6.call {fn : Nat} {args : Array Value} {P : Ending → Prop} (h : Q6 At Own W dv sv n d s pv L nv M ab acs w) (hc : ∀ F, SAt At Own w F dv sv n d s → (∀ i, i < W.heap.size → ¬ F i) → Calls Tryz.prog fn args w fun e w' => P e ∧ SAt At Own w' (Grow F w w') dv sv n d' s' ∧ Kept F w w') :
    Calls Tryz.prog fn args w fun e w' => P e ∧ Q6 At Own W dv sv n d' s' pv L nv M ab acs w' := by
  obtain ⟨Z, h1, h2, h3, h4, h5, h6⟩ := h.ex
  refine (h1.call (fun F hF hz => hc F hF (fun i hi hf => hz i hf (h2 i hi)))).mono ?_
  rintro e w' ⟨k1, k2, k3⟩
  exact ⟨k1, ⟨Z, k2, h2, k3.rws h3 (fun _ h => h), k3.rws h4 (fun _ h => h), k3.row h5 h6, h6⟩⟩

set_option maxRecDepth 100000 in
/-- The law's own After. -/
theorem Q6.after (U : DiskUse At) (H : StoreOk At Own) (h : Q6 At Own W dv sv n d s pv L nv M ab acs w) {G : Nat → Prop} {cv : Value} {cs : List Sto.Ch} (hc : Changes w G cv cs) (hl : L.length + cs.length ≤ 1000000) :
    Calls Tryz.prog 14 #[pv, cv] w fun e w' => ∃ v', e = .returned v' ∧ Q6 At Own W dv sv n d s pv L v' (Sto.after L cs) ab acs w' := by
  obtain ⟨Z, h1, h2, h3, h4, h5, h6⟩ := h.ex
  refine (after_any h3 hc hl).mono ?_
  rintro e w' ⟨v', rfl, hv⟩
  exact ⟨v', rfl, ⟨fun i => Z i ∨ NewIn w w' i, h1.more U H hv.2 (fun i hi => hi), fun i hi => Or.inl (h2 i hi), (h3.below hv.2).mono (fun _ => Or.inl), hv.1, h5.below hv.2 h5.inHeap, Or.inl h6⟩⟩

set_option maxRecDepth 100000 in
theorem Q6.check (U : DiskUse At) (H : StoreOk At Own) (h : Q6 At Own W dv sv n d s pv L nv M ab acs w) {cv : Value} {cs : List Sto.Ch} (hc : Changes w (fun i => i < W.heap.size) cv cs) (hl : L.length ≤ 100000) (hf : Sto.Fit L) (hcl : cs.length ≤ 9223372036854775807) (q : Int) :
    Calls Tryz.prog 12 #[pv, cv, .int .i64 q] w fun e w' => e = .returned (.int .i64 (Sto.check L cs q)) ∧ Q6 At Own W dv sv n d s pv L nv M ab acs w' := by
  obtain ⟨Z, h1, h2, h3, h4, h5, h6⟩ := h.ex
  refine (check_law h3 hc hl hf hcl q).mono ?_
  rintro e w' ⟨rfl, k⟩
  exact ⟨rfl, h.below U H k⟩

set_option maxRecDepth 100000 in
theorem Q6.full (U : DiskUse At) (H : StoreOk At Own) (h : Q6 At Own W dv sv n d s pv L nv M ab acs w) (hl : M.length ≤ 200000) (hf : Sto.Fit M) (half : Nat) (hh : half ≤ 100000) :
    Calls Tryz.prog 15 #[nv, .int .i64 (half : Int)] w fun e w' => e = .returned (.int .i64 (if half < Sto.whole M then 10 else 0)) ∧ Q6 At Own W dv sv n d s pv L nv M ab acs w' := by
  obtain ⟨Z, h1, h2, h3, h4, h5, h6⟩ := h.ex
  refine (full_any h4 hl hf half hh).mono ?_
  rintro e w' ⟨rfl, k⟩
  exact ⟨rfl, h.below U H k⟩

set_option maxRecDepth 100000 in
theorem Q6.checks (H : StoreOk At Own) (h : Q6 At Own W dv sv n d s pv L nv M ab acs w) (hb : s.broken = false) (hg : Good s) {cv : Value} {cs : List Sto.Ch} (hc : Changes w (fun i => i < W.heap.size) cv cs) (hcl : cs.length ≤ 9223372036854775807) :
    Calls Tryz.prog 13 #[sv, cv] w fun e w' => e = .returned (.int .i64 (Sto.check s.vals cs s.quota)) ∧ Q6 At Own W dv sv n d s pv L nv M ab acs w' :=
  h.call fun F hF hz => H.check hF hb hg hc (fun k hk => hz k hk) hcl

set_option maxRecDepth 100000 in
theorem Q6.doing (H : StoreOk At Own) {N : Nat} (h : Q6 At Own W dv sv n d s pv L nv M ab acs w) (HL : Sto.Lives n d s) (hg : Good s) (hf : d.Fine N) (hn : 4 ≤ n) (hN : N + (2 * hof n + 6) ≤ 100000) {cv : Value} {cs : List Sto.Ch} (hc : Changes w (fun i => i < W.heap.size) cv cs) (hcl : cs.length ≤ 9223372036854775807) :
    Calls Tryz.prog 17 #[sv, cv] w fun e w' => e = .returned (.int .i64 (Sto.doing n d s cs).1) ∧ Q6 At Own W dv sv n (Sto.doing n d s cs).2.1 (Sto.doing n d s cs).2.2 pv L nv M ab acs w' := by
  obtain ⟨k1, k2, -⟩ := lives_held HL
  exact h.call fun F hF hz => H.doing hF HL.up k2 hg (lives_sound HL hf hn) k1 hN hc (fun k hk => hz k hk) hcl

set_option maxRecDepth 100000 in
theorem Q6.arm (U : DiskUse At) (H : StoreOk At Own) {N : Nat} (h : Q6 At Own W dv sv n d s pv L nv M ab acs w) (hf : d.Fine N) (hN : N ≤ 100000) (x : Int) (h1 : -9223372036854775808 ≤ x) (h2 : x ≤ 9223372036854775807) :
    Calls Tryz.prog 16 #[dv, .int .i64 x] w fun e w' => e = .returned (.tuple #[]) ∧ Q6 At Own W dv sv n (d.arm x) s pv L nv M ab acs w' :=
  h.call fun F hF hz => hF.disk H (fun F1 k1 _ => U.arm k1 hf hN x h1 h2)

set_option maxRecDepth 100000 in
theorem Q6.crash (U : DiskUse At) (H : StoreOk At Own) {N : Nat} (h : Q6 At Own W dv sv n d s pv L nv M ab acs w) (hf : d.Fine N) (hN : N ≤ 100000) {kv : Value} {ks : List Int} (hk : Cells W (fun i => i < W.heap.size) kv (ks.map (Value.int .i64))) (h1 : ∀ x ∈ ks, -9223372036854775808 ≤ x ∧ x ≤ 9223372036854775807) (h2 : ks.length ≤ 9223372036854775807) :
    Calls Tryz.prog 21 #[dv, kv] w fun e w' => e = .returned (.tuple #[]) ∧ Q6 At Own W dv sv n (d.crash ks) s pv L nv M ab acs w' := by
  have hb := h.bel
  have hk2 : Cells w (fun i => i < W.heap.size) kv (ks.map (Value.int .i64)) := hk.below hb
  exact h.call fun F hF hz => hF.disk H (fun F1 k1 k2 => U.crash k1 hf hN hk2 (fun i hi hfi => hz i hi (k2 i hfi)) h1 h2)

set_option maxRecDepth 100000 in
theorem Q6.broken (H : StoreOk At Own) (h : Q6 At Own W dv sv n d s pv L nv M ab acs w) :
    Calls Tryz.prog 18 #[sv] w fun e w' => e = .returned (.bool s.broken) ∧ Q6 At Own W dv sv n d s pv L nv M ab acs w' :=
  h.call fun F hF hz => H.broken hF

set_option maxRecDepth 100000 in
theorem Q6.quota (H : StoreOk At Own) (h : Q6 At Own W dv sv n d s pv L nv M ab acs w) :
    Calls Tryz.prog 20 #[sv] w fun e w' => e = .returned (.int .i64 s.quota) ∧ Q6 At Own W dv sv n d s pv L nv M ab acs w' :=
  h.call fun F hF hz => H.quota hF

set_option maxRecDepth 100000 in
theorem Q6.same1 (U : DiskUse At) (H : StoreOk At Own) (h : Q6 At Own W dv sv n d s pv L nv M ab acs w) (hg : Good s) (hl : L.length ≤ 100000) (hf : Sto.Fit L) :
    Calls Tryz.prog 19 #[sv, pv] w fun e w' => e = .returned (.bool (decide (s.vals = L))) ∧ Q6 At Own W dv sv n d s pv L nv M ab acs w' := by
  obtain ⟨Z, h1, h2, h3, h4, h5, h6⟩ := h.ex
  refine (same_any U H h1 hg h3 hl hf).mono ?_
  rintro e w' ⟨rfl, k2, k3⟩
  exact ⟨rfl, ⟨Z, k2, h2, k3.rws h3 (fun _ h => h), k3.rws h4 (fun _ h => h), k3.row h5 h6, h6⟩⟩

set_option maxRecDepth 100000 in
theorem Q6.same2 (U : DiskUse At) (H : StoreOk At Own) (h : Q6 At Own W dv sv n d s pv L nv M ab acs w) (hg : Good s) (hl : M.length ≤ 100000) (hf : Sto.Fit M) :
    Calls Tryz.prog 19 #[sv, nv] w fun e w' => e = .returned (.bool (decide (s.vals = M))) ∧ Q6 At Own W dv sv n d s pv L nv M ab acs w' := by
  obtain ⟨Z, h1, h2, h3, h4, h5, h6⟩ := h.ex
  refine (same_any U H h1 hg h4 hl hf).mono ?_
  rintro e w' ⟨rfl, k2, k3⟩
  exact ⟨rfl, ⟨Z, k2, h2, k3.rws h3 (fun _ h => h), k3.rws h4 (fun _ h => h), k3.row h5 h6, h6⟩⟩

set_option maxRecDepth 100000 in
/-- The disk is opened again. -/
theorem Q6.again (U : DiskUse At) (H : StoreOk At Own) {N : Nat} (h : Q6 At Own W dv sv n d s pv L nv M ab acs w) {s0 : Sto.Sr} (HL : Sto.Lives n d s0) (hf : d.Fine N) (hn : 4 ≤ n) (hN : N ≤ 100000) {q : Int} (h0 : 0 ≤ q) (h1 : q ≤ 1048576) :
    Calls Tryz.prog 10 #[dv, .int .i64 q] w fun e w' => ∃ p, e = .returned (.tuple #[.pointer (some p), .int .i64 0]) ∧ Q6 At Own W dv (.pointer (some p)) n d ⟨s0.j, s0.vals, q, false⟩ pv L nv M ab acs w' := by
  obtain ⟨Z, k1, h2, h3, h4, h5, h6⟩ := h.ex
  refine (dw_store U H (sw_disk k1) HL hf hn hN h0 h1).mono ?_
  rintro e w' ⟨p, rfl, k2, k3⟩
  exact ⟨p, rfl, ⟨Z, k2, h2, k3.rws h3 (fun _ h => h), k3.rws h4 (fun _ h => h), k3.row h5 h6, h6⟩⟩
end
end Go.Proofs.YtbfjageaheijbaaGreat
/- All of a transaction, or none: StoreKeeps out of the contracts. -/
set_option linter.unusedSimpArgs false
set_option linter.unusedVariables false
namespace Go.Proofs.YtbfjageaheijbaaGreat
open Go.RowKit Dsk Jnl

section
variable {At : World → (Nat → Prop) → Value → D → Prop} {Own : World → (Nat → Prop) → Value → Value → Nat → Sto.Sr → Prop}

set_option maxRecDepth 100000 in
theorem Sto.Lives.arm {n : Nat} {d : D} {s : Sto.Sr} (h : Sto.Lives n d s) (x : Int) : Sto.Lives n (d.arm x) s := by
  obtain ⟨recs, h1, h2⟩ := h.live
  exact ⟨⟨recs, h1.arm x, h2⟩, h.up⟩

set_option maxRecDepth 100000 in
theorem Sto.Falls.arm {n : Nat} {d : D} {a b : List Sto.Pr} {m : Nat} (h : Sto.Falls n d a b m) (x : Int) : Sto.Falls n (d.arm x) a b m := by
  obtain ⟨j, r, j', r', h1, h2⟩ := h.two
  exact ⟨j, r, j', r', h1.arm x, h2⟩

/-- At the head of a round of StoreKeeps. -/
def KeptAt (At : World → (Nat → Prop) → Value → D → Prop) (Own : World → (Nat → Prop) → Value → Value → Nat → Sto.Sr → Prop) (W : World) (dv sv : Value) (n : Nat) (q : Int) (m : Nat) (pv : Value) (w : World) : Prop :=
  ∃ d s Z, Stands At Own W dv sv n d s pv Z w ∧ Plain n d s (3 + m * 264) (1 + m) ∧ s.quota = q

variable {W w w' : World} {dv sv pv : Value} {n : Nat} {d : D} {s : Sto.Sr} {Z : Nat → Prop}

set_option maxRecDepth 100000 in
theorem KeptAt.bel {q : Int} {m : Nat} (h : KeptAt At Own W dv sv n q m pv w) : Below W.heap.size W w := by
  obtain ⟨d, s, Z, k, -⟩ := h
  exact k.sw.bel

set_option maxRecDepth 100000 in
theorem kept_of {q : Int} {m : Nat} {nv : Value} {M : List Sto.Pr} {ab : Nat} {acs : Array Value} {L : List Sto.Pr} (h : Q6 At Own W dv sv n d s pv L nv M ab acs w) (hL : s.vals = L) (hp : Plain n d s (3 + m * 264) (1 + m)) (hq : s.quota = q) : KeptAt At Own W dv sv n q m pv w := by
  subst hL
  obtain ⟨Z, k⟩ := h.stop
  exact ⟨d, s, Z, k, hp, hq⟩

set_option maxRecDepth 100000 in
theorem q6_true (U : DiskUse At) (H : StoreOk At Own) {nv : Value} {M : List Sto.Pr} {ab : Nat} {acs : Array Value} {L : List Sto.Pr} {K Q : Nat} (h : Q6 At Own W dv sv n d s pv L nv M ab acs w) (hL : s.vals = L) (hp : Plain n d s K Q) (hn : n ≤ 1026) :
    Calls Tryz.prog 19 #[sv, pv] w fun e w' => e = .returned (.bool true) ∧ Q6 At Own W dv sv n d s pv L nv M ab acs w' := by
  have hg := hp.good hn
  have := h.same1 U H hg (by rw [← hL]; exact hg.few) (by rw [← hL]; exact hg.fit)
  rw [decide_eq_true hL] at this
  exact this

set_option maxRecDepth 100000 in
theorem q6_quota (H : StoreOk At Own) {q : Int} {nv : Value} {M : List Sto.Pr} {ab : Nat} {acs : Array Value} {L : List Sto.Pr} (h : Q6 At Own W dv sv n d s pv L nv M ab acs w) (hq : s.quota = q) :
    Calls Tryz.prog 20 #[sv] w fun e w' => e = .returned (.int .i64 q) ∧ Q6 At Own W dv sv n d s pv L nv M ab acs w' := by
  have := h.quota H
  rw [hq] at this
  exact this

set_option maxRecDepth 100000 in
/-- Opened again, behind a crash of a disk that was not down. -/
theorem q6_again (U : DiskUse At) (H : StoreOk At Own) {q : Int} {nv : Value} {M : List Sto.Pr} {ab : Nat} {acs : Array Value} {L : List Sto.Pr} {K Q : Nat} {d0 : D} {ks : List Int} (h : Q6 At Own W dv sv n (d0.crash ks) s pv L nv M ab acs w) (hL : s.vals = L) (hp : Plain n d0 s K Q) (hq : s.quota = q) (hn : 4 ≤ n) (hK : K ≤ 100000) :
    Calls Tryz.prog 10 #[dv, .int .i64 q] w fun e w' => ∃ sp s', e = .returned (.tuple #[.pointer (some sp), .int .i64 0]) ∧ Q6 At Own W dv (.pointer (some sp)) n (d0.crash ks) s' pv L nv M ab acs w' ∧ s'.vals = L ∧ Plain n (d0.crash ks) s' K Q ∧ s'.quota = q := by
  obtain ⟨recs, h1, h2, h3⟩ := hp.lives.crash hn ks
  have hf := hp.fine.crash ks
  refine (h.again U H h3 hf hn hK (by rw [← hq]; exact hp.quota.1) (by rw [← hq]; exact hp.quota.2)).mono ?_
  rintro e w' ⟨sp, rfl, k⟩
  exact ⟨sp, _, rfl, k, hL, ⟨⟨h3.live, rfl⟩, hf, by rw [← hq]; exact hp.quota, hp.whole, hp.seq⟩, rfl⟩

set_option maxRecDepth 100000 in
set_option maxHeartbeats 12800000 in
theorem keeps_walk (U : DiskUse At) (H : StoreOk At Own) (A : Option Addr) (len cap : Nat) (l : List Ac) (W : World) (hlc : len ≤ cap) (h63 : len ≤ 9223372036854775807) (hin : AcsIn W A len l) (sn : Nat) (hsn : sn < 256) (q : Int) (hq1 : -9223372036854775808 ≤ q) (hq2 : q ≤ 9223372036854775807) :
    Calls Tryz.prog 3 #[.int .u8 (sn : Int), .int .i64 q, .slice A len cap] W fun e w' => e = .returned (.bool true) ∧ Below W.heap.size W w' := by
  obtain ⟨hlen, hok, hat⟩ := hin
  have Hok := Lib.hid hok
  have Hat := Lib.hid hat
  have hl63 : (len : Int) ≤ 9223372036854775807 := by omega
  obtain ⟨n, hn⟩ : ∃ n : Nat, n = sn + 4 := ⟨_, rfl⟩
  have hn4 : 4 ≤ n := by omega
  have hn259 : n ≤ 259 := by omega
  have hh : hof n = (n - 2) / 2 := rfl
  have hhk : 2 * hof n + 6 ≤ 264 := by rw [hh]; omega
  have hhb : hof n ≤ 129 := by omega
  have e0 : (sn : Int) ≤ 255 := by omega
  have e1 : (sn : Int) + 4 = (n : Int) := by omega
  obtain ⟨hv, hhv⟩ : ∃ hv, hof n = hv := ⟨_, rfl⟩
  obtain ⟨hw, hhw⟩ : ∃ hw, 64 * hof n = hw := ⟨_, rfl⟩
  have e2 : ((sn : Int) + 2).tdiv 2 = (hv : Int) := by
    rw [← hhv, hh]
    have e : (sn : Int) + 2 = ((n - 2 : Nat) : Int) := by omega
    rw [e]
    rfl
  have e3 : (64 : Int) * (hv : Int) = (hw : Int) := by omega
  have e4 : (hv : Int) ≤ 129 := by omega
  have e5 : (hw : Int) ≤ 8256 := by omega
  have Hhw := Lib.hid hhw
  have Hhk := Lib.hid hhk
  clear hh hhv hhw
  obtain ⟨l1, cal1, fin1⟩ := format_lives (n := n) hn4 (by omega) q
  have C0 := Lib.hid (dw_new U n W (by omega) (by omega))
  have C1 : Hid (∀ w p, Dw At W (fun _ => False) (.pointer (some p)) (Dsk.new n) w → Calls Tryz.prog 8 #[.pointer (some p)] w fun e w' => e = .returned (.int .i64 0) ∧ Dw At W (fun _ => False) (.pointer (some p)) (Jnl.format (Dsk.new n)).2 w' ∧ SameZ (fun _ => False) w w') :=
    Lib.hid (fun W p h => store_format U H hn4 (by omega) h)
  have C1b : Hid (∀ w p, Dw At W (fun _ => False) (.pointer (some p)) (Jnl.format (Dsk.new n)).2 w → Calls Tryz.prog 9 #[] w fun e w' => e = .returned (.bool true) ∧ Dw At W (fun _ => False) (.pointer (some p)) (Jnl.format (Dsk.new n)).2 w') :=
    Lib.hid (fun w p h => (sto_awake U H w).mono (by rintro e w' ⟨rfl, k⟩; exact ⟨rfl, (h.below U k).1⟩))
  by_cases hq : q < 0 ∨ 1048576 < q
  · have C2 : Hid (∀ w p, Dw At W (fun _ => False) (.pointer (some p)) (Jnl.format (Dsk.new n)).2 w → Calls Tryz.prog 10 #[.pointer (some p), .int .i64 q] w fun e w' => e = .returned (.tuple #[.pointer none, .int .i64 2]) ∧ Below W.heap.size W w') :=
      Lib.hid (fun w p h => by
        refine (h.call (d' := (Jnl.format (Dsk.new n)).2) (fun F hF => H.wrong hF (lives_sound l1 fin1 hn4) (by decide) (lives_held l1).2.2 hq1 hq2 hq)).mono ?_
        rintro e w' ⟨rfl, k1, -⟩
        exact ⟨rfl, k1.bel⟩)
    have hcase : decide (q < 0) = true ∨ (decide (q < 0) = false ∧ decide ((1048576 : Int) < q) = true) := by
      by_cases h0 : q < 0
      · exact Or.inl (decide_eq_true h0)
      · exact Or.inr ⟨decide_eq_false h0, decide_eq_true (by omega)⟩
    clear l1 cal1 fin1 hok hat hn hq
    generalize (Jnl.format (Dsk.new n)).2 = d1 at *
    rcases hcase with g1 | ⟨g1, g2⟩
    all_goals
      go_enter Tryz.func3, Tryz.ntmps3
      go_wp2_with fail
      refine C0.out.mono ?_
      rintro e w1 ⟨p, rfl, h1⟩
      have H1 := Lib.hid h1
      clear h1
      go_wp2_with fail
      refine (C1.out _ _ H1.out).mono ?_
      rintro e w2 ⟨rfl, h2, -⟩
      have H2 := Lib.hid h2
      clear h2 H1
      go_wp2_with fail
      refine (C1b.out _ _ H2.out).mono ?_
      rintro e w2b ⟨rfl, h2⟩
      have H2b := Lib.hid h2
      clear h2 H2
      go_wp2_with fail
      refine (C2.out _ _ H2b.out).mono ?_
      rintro e w3 ⟨rfl, h3⟩
      go_wp2_with fail
      go_ret
      exact ⟨rfl, h3⟩
  · have hq0 : 0 ≤ q := by omega
    have hq9 : q ≤ 1048576 := by omega
    have p1 : Hid (Plain n (Jnl.format (Dsk.new n)).2 ⟨⟨1, 0, [], false⟩, [], q, false⟩ 3 1) := ⟨l1, fin1, ⟨hq0, hq9⟩, Nat.zero_le _, Nat.le_refl _⟩
    have C2 : Hid (∀ w p, Dw At W (fun _ => False) (.pointer (some p)) (Jnl.format (Dsk.new n)).2 w → Calls Tryz.prog 10 #[.pointer (some p), .int .i64 q] w fun e w' => ∃ sp, e = .returned (.tuple #[.pointer (some sp), .int .i64 0]) ∧ KeptAt At Own W (.pointer (some p)) (.pointer (some sp)) n q 0 (.slice none 0 0) w') :=
      Lib.hid (fun w p h => by
        refine (dw_store U H (dw_old h) l1 fin1 hn4 (by decide) hq0 hq9).mono ?_
        rintro e w' ⟨sp, rfl, k1, -⟩
        exact ⟨sp, rfl, _, _, _, ⟨k1, fun i hi => Or.inr hi, Rws.none _ _ _⟩, p1.out, rfl⟩)
    have g1 : decide (q < 0) = false := decide_eq_false (by omega)
    have g2 : decide ((1048576 : Int) < q) = false := decide_eq_false (by omega)
    clear l1 cal1 fin1 p1 hok hat hn hq
    generalize (Jnl.format (Dsk.new n)).2 = d1 at *
    go_enter Tryz.func3, Tryz.ntmps3
    go_wp2_with fail
    refine C0.out.mono ?_
    rintro e w1 ⟨p, rfl, h1⟩
    have H1 := Lib.hid h1
    clear h1
    go_wp2_with fail
    refine (C1.out _ _ H1.out).mono ?_
    rintro e w2 ⟨rfl, h2, -⟩
    have H2 := Lib.hid h2
    clear h2 H1
    go_wp2_with fail
    refine (C1b.out _ _ H2.out).mono ?_
    rintro e w2b ⟨rfl, h2⟩
    have H2b := Lib.hid h2
    clear h2 H2
    go_wp2_with fail
    refine (C2.out _ _ H2b.out).mono ?_
    rintro e w3 ⟨sp, rfl, h3⟩
    have H3 := Lib.hid h3
    clear h3 H2b C0 C1 C1b C2
    go_wp2_with fail
    go_loopw [10, 12, 13] (fun sv pv i wr => ∃ (m : Nat) (sp : Addr), m ≤ l.length ∧ m ≤ 30 ∧ i = .int .i64 (m : Int) ∧ sv = .pointer (some sp) ∧ KeptAt At Own W (.pointer (some p)) (.pointer (some sp)) n q m pv wr) (fun _ _ i _ => l.length - (intOf i).toNat)
    case atStart => exact ⟨0, sp, Nat.zero_le _, Nat.zero_le _, rfl, rfl, H3.out⟩
    case round =>
      obtain ⟨m, sp, hm, hm30, rfl, rfl, hk⟩ := hrel
      clear H3
      have HK := Lib.hid hk
      have hm0 : (0 : Int) ≤ (m : Int) := by omega
      have hm3 : (m : Int) ≤ 30 := by omega
      clear hk
      by_cases hgo : m < l.length ∧ m < 30
      · obtain ⟨hlt, hlt30⟩ := hgo
        have hm1 : (m : Int) < (len : Int) := by omega
        have hm2 : (m : Int) < 30 := by omega
        obtain ⟨b, off, rfl, hb, hcells⟩ := Hat.out (by omega)
        obtain ⟨x, hx⟩ : ∃ x, l[m]? = some x := ⟨_, List.getElem?_eq_getElem hlt⟩
        have hxok := Hok.out x (List.mem_of_getElem? hx)
        have hbel := HK.out.bel
        obtain ⟨q0, q1, q2, q3⟩ := hcells m x hx
        have c0 : wr.cell? ⟨b, off + m * 4, none⟩ = some (.slice x.l.A x.l.len x.l.cap) := (hbel.cell (p := ⟨b, off + m * 4, none⟩) hb).trans q0
        have c1 : wr.cell? ⟨b, off + m * 4 + 1, none⟩ = some (.int .i64 x.arm) := (hbel.cell (p := ⟨b, off + m * 4 + 1, none⟩) hb).trans q1
        have c2 : wr.cell? ⟨b, off + m * 4 + 2, none⟩ = some (.slice x.kA x.kn x.kc) := (hbel.cell (p := ⟨b, off + m * 4 + 2, none⟩) hb).trans q2
        have c3 : wr.cell? ⟨b, off + m * 4 + 3, none⟩ = some (.bool x.ag) := (hbel.cell (p := ⟨b, off + m * 4 + 3, none⟩) hb).trans q3
        clear q0 q1 q2 q3 hcells
        have hlow := hxok.low
        have hhigh := hxok.high
        have hkeep := hxok.keep
        have Heach := Lib.hid hxok.each
        have Hfew := Lib.hid hxok.few
        generalize hxA : x.l.A = xA at *
        generalize hxl : x.l.len = xl at *
        generalize hxc : x.l.cap = xc at *
        generalize x.arm = xarm at *
        generalize x.kA = kA at *
        generalize x.kn = kn at *
        generalize x.kc = kc at *
        generalize x.ag = xag at *
        have Hlow := Lib.hid hlow
        have Hhigh := Lib.hid hhigh
        have Hkeep := Lib.hid hkeep
        clear hlow hhigh hkeep
        obtain ⟨d, s, Z, hst, hpl, hsq⟩ := HK.out
        have hq0' := Q6.start (w' := wr.alloc (.cells #[.slice xA xl xc, .int .i64 xarm, .slice kA kn kc, .bool xag] 36)) U H hst #[.slice xA xl xc, .int .i64 xarm, .slice kA kn kc, .bool xag] (Row.made wr _ _) ((Below.refl _ _).alloc (Nat.le_refl _) _)
        have hxc' : Hid (∀ a, Below W.heap.size W a → Changes a (fun i => i < W.heap.size) (.slice xA xl xc) x.l.cs) := Lib.hid (fun a ha => by
          have h := hxok.l.cells
          unfold Lc.v at h
          rw [hxA, hxl, hxc] at h
          exact h.below ha)
        have hcl := Lib.hid hxok.l.len
        have hbig : Hid (n ≤ 1026) := Lib.hid (by omega)
        have hg := Lib.hid (hpl.good (by omega))
        have Hpl := Lib.hid hpl
        have Hsq := Lib.hid hsq
        have HQ0 := Lib.hid hq0'
        have L1 := Lib.hid (lightc_any (hxc'.out _ hq0'.bel) hcl.out)
        clear hst hpl hsq hq0' hx hxok hbel HK hxA hxl hxc
        by_cases hli : LightC x.l.cs
        · rw [decide_eq_true hli] at L1
          clear hli
          go_wp2_with fail
          refine (L1.out).mono ?_
          rintro e w4 ⟨rfl, rfl⟩
          go_wp2_with fail
          refine (HQ0.out.check U H (hxc'.out _ HQ0.out.bel) hg.out.few hg.out.fit hcl.out q).mono ?_
          rintro e w5 ⟨rfl, h5⟩
          have H5 := Lib.hid h5
          clear h5 HQ0 L1
          have r0H5 : w5.cell? ⟨wr.heap.size, 0, none⟩ = some (.slice xA xl xc) := H5.out.row.at 0
          have r1H5 : w5.cell? ⟨wr.heap.size, 1, none⟩ = some (.int .i64 xarm) := H5.out.row.at 1
          have r2H5 : w5.cell? ⟨wr.heap.size, 2, none⟩ = some (.slice kA kn kc) := H5.out.row.at 2
          have r3H5 : w5.cell? ⟨wr.heap.size, 3, none⟩ = some (.bool xag) := H5.out.row.at 3
          have CK : Hid (Calls Tryz.prog 13 #[.pointer (some sp), .slice xA xl xc] w5 fun e w' => e = .returned (.int .i64 (Sto.check s.vals x.l.cs q)) ∧ Q6 At Own W (.pointer (some p)) (.pointer (some sp)) n d s u12 s.vals u12 s.vals wr.heap.size #[.slice xA xl xc, .int .i64 xarm, .slice kA kn kc, .bool xag] w') := Lib.hid (by
            have := H5.out.checks H Hpl.out.lives.up hg.out (hxc'.out _ H5.out.bel) hcl.out
            rw [Hsq.out] at this
            exact this)
          by_cases hch : Sto.check s.vals x.l.cs q = 0
          · have hco := Sto.check_ok hch
            have hnf := Lib.hid (Sto.after_fit hg.out.fit hco.2.2)
            have hnl : Hid ((Sto.after s.vals x.l.cs).length ≤ 200000) := Lib.hid (by have := Sto.after_len s.vals x.l.cs; have := hg.out.few; have := hco.2.1; omega)
            have hsum : Hid (s.vals.length + x.l.cs.length ≤ 1000000) := Lib.hid (by have := hg.out.few; have := hco.2.1; omega)
            have hchq : Hid (Sto.check s.vals x.l.cs s.quota = 0) := Lib.hid (by rw [Hsq.out]; exact hch)
            rw [hch] at CK
            rw [hch]
            clear hch hco
            go_wp2_with fail
            refine (CK.out).mono ?_
            rintro e w6 ⟨rfl, h6⟩
            have H6 := Lib.hid h6
            clear h6 CK H5
            have r0H6 : w6.cell? ⟨wr.heap.size, 0, none⟩ = some (.slice xA xl xc) := H6.out.row.at 0
            have r1H6 : w6.cell? ⟨wr.heap.size, 1, none⟩ = some (.int .i64 xarm) := H6.out.row.at 1
            have r2H6 : w6.cell? ⟨wr.heap.size, 2, none⟩ = some (.slice kA kn kc) := H6.out.row.at 2
            have r3H6 : w6.cell? ⟨wr.heap.size, 3, none⟩ = some (.bool xag) := H6.out.row.at 3
            go_wp2_with fail
            refine (H6.out.after U H (hxc'.out _ H6.out.bel) hsum.out).mono ?_
            rintro e w6b ⟨nv, rfl, h6b⟩
            have H6b := Lib.hid h6b
            clear h6b H6
            have r0H6b : w6b.cell? ⟨wr.heap.size, 0, none⟩ = some (.slice xA xl xc) := H6b.out.row.at 0
            have r1H6b : w6b.cell? ⟨wr.heap.size, 1, none⟩ = some (.int .i64 xarm) := H6b.out.row.at 1
            have r2H6b : w6b.cell? ⟨wr.heap.size, 2, none⟩ = some (.slice kA kn kc) := H6b.out.row.at 2
            have r3H6b : w6b.cell? ⟨wr.heap.size, 3, none⟩ = some (.bool xag) := H6b.out.row.at 3
            have FU := Lib.hid (H6b.out.full U H hnl.out hnf.out hw (by omega))
            by_cases hful : hw < Sto.whole (Sto.after s.vals x.l.cs)
            · rw [if_pos hful] at FU
              have DO : Hid (∀ a, Q6 At Own W (.pointer (some p)) (.pointer (some sp)) n (d.arm xarm) s u12 s.vals nv (Sto.after s.vals x.l.cs) wr.heap.size #[.slice xA xl xc, .int .i64 xarm, .slice kA kn kc, .bool xag] a → Calls Tryz.prog 17 #[.pointer (some sp), .slice xA xl xc] a fun e w' => e = .returned (.int .i64 10) ∧ Q6 At Own W (.pointer (some p)) (.pointer (some sp)) n (d.arm xarm) s u12 s.vals nv (Sto.after s.vals x.l.cs) wr.heap.size #[.slice xA xl xc, .int .i64 xarm, .slice kA kn kc, .bool xag] w') := Lib.hid (fun a ha => by
                have := ha.doing H (Hpl.out.lives.arm xarm) hg.out (Hpl.out.fine.arm xarm Hhigh.out) hn4 (by have := Hhk.out; omega) (hxc'.out _ ha.bel) hcl.out
                rw [Sto.doing_full hchq.out (by rw [Hhw.out]; exact hful)] at this
                exact this)
              have PL : Hid (Plain n ((d.arm xarm).arm 0) s (3 + (m + 1) * 264) (1 + (m + 1))) := Lib.hid ⟨(Hpl.out.lives.arm xarm).arm 0, ((Hpl.out.fine.arm xarm Hhigh.out).arm 0 (by decide)).mono (by omega), Hpl.out.quota, Hpl.out.whole, by have := Hpl.out.seq; omega⟩
              clear hful
              generalize Sto.after s.vals x.l.cs = next at *
              go_wp2_with fail
              refine (FU.out).mono ?_
              rintro e w6c ⟨rfl, h6c⟩
              have H6c := Lib.hid h6c
              clear h6c FU H6b
              have r0H6c : w6c.cell? ⟨wr.heap.size, 0, none⟩ = some (.slice xA xl xc) := H6c.out.row.at 0
              have r1H6c : w6c.cell? ⟨wr.heap.size, 1, none⟩ = some (.int .i64 xarm) := H6c.out.row.at 1
              have r2H6c : w6c.cell? ⟨wr.heap.size, 2, none⟩ = some (.slice kA kn kc) := H6c.out.row.at 2
              have r3H6c : w6c.cell? ⟨wr.heap.size, 3, none⟩ = some (.bool xag) := H6c.out.row.at 3
              go_wp2_with fail
              refine (H6c.out.arm U H Hpl.out.fine (by omega) xarm Hlow.out Hhigh.out).mono ?_
              rintro e w7 ⟨rfl, h7⟩
              have H7 := Lib.hid h7
              clear h7 H6c
              have r0H7 : w7.cell? ⟨wr.heap.size, 0, none⟩ = some (.slice xA xl xc) := H7.out.row.at 0
              have r1H7 : w7.cell? ⟨wr.heap.size, 1, none⟩ = some (.int .i64 xarm) := H7.out.row.at 1
              have r2H7 : w7.cell? ⟨wr.heap.size, 2, none⟩ = some (.slice kA kn kc) := H7.out.row.at 2
              have r3H7 : w7.cell? ⟨wr.heap.size, 3, none⟩ = some (.bool xag) := H7.out.row.at 3
              go_wp2_with fail
              refine (DO.out _ H7.out).mono ?_
              rintro e w8 ⟨rfl, h8⟩
              have H8 := Lib.hid h8
              clear h8 H7 DO
              have r0H8 : w8.cell? ⟨wr.heap.size, 0, none⟩ = some (.slice xA xl xc) := H8.out.row.at 0
              have r1H8 : w8.cell? ⟨wr.heap.size, 1, none⟩ = some (.int .i64 xarm) := H8.out.row.at 1
              have r2H8 : w8.cell? ⟨wr.heap.size, 2, none⟩ = some (.slice kA kn kc) := H8.out.row.at 2
              have r3H8 : w8.cell? ⟨wr.heap.size, 3, none⟩ = some (.bool xag) := H8.out.row.at 3
              go_wp2_with fail
              refine (H8.out.arm U H (Hpl.out.fine.arm xarm Hhigh.out) (by omega) 0 (by decide) (by decide)).mono ?_
              rintro e w9 ⟨rfl, h9⟩
              have H9 := Lib.hid h9
              clear h9 H8
              have r0H9 : w9.cell? ⟨wr.heap.size, 0, none⟩ = some (.slice xA xl xc) := H9.out.row.at 0
              have r1H9 : w9.cell? ⟨wr.heap.size, 1, none⟩ = some (.int .i64 xarm) := H9.out.row.at 1
              have r2H9 : w9.cell? ⟨wr.heap.size, 2, none⟩ = some (.slice kA kn kc) := H9.out.row.at 2
              have r3H9 : w9.cell? ⟨wr.heap.size, 3, none⟩ = some (.bool xag) := H9.out.row.at 3
              cases xag
              · go_wp2_with fail
                refine (q6_true U H H9.out rfl PL.out (by omega)).mono ?_
                rintro e wA ⟨rfl, hA⟩
                have HA := Lib.hid hA
                clear hA
                go_wp2_with fail
                refine (q6_quota H HA.out Hsq.out).mono ?_
                rintro e wB ⟨rfl, hB⟩
                have HB := Lib.hid hB
                clear hB HA
                go_wp2_with fail
                refine ⟨⟨m + 1, sp, by omega, by omega, rfl, rfl, kept_of HB.out rfl PL.out Hsq.out⟩, ?_⟩
                show l.length - ((m : Int) + 1).toNat < l.length - (m : Int).toNat
                omega
              · go_wp2_with fail
                refine (H9.out.crash U H (PL.out.fine) (by omega) Hkeep.out Heach.out Hfew.out).mono ?_
                rintro e wA ⟨rfl, hA⟩
                have HA := Lib.hid hA
                clear hA
                go_wp2_with fail
                refine (q6_again U H HA.out rfl PL.out Hsq.out hn4 (by omega)).mono ?_
                rintro e wB ⟨sp2, s9, rfl, hB, b1, b2, b3⟩
                have HB := Lib.hid hB
                have B1 := Lib.hid b1
                have B2 := Lib.hid b2
                have B3 := Lib.hid b3
                clear hB b1 b2 b3 HA
                go_wp2_with fail
                refine (q6_true U H HB.out B1.out B2.out (by omega)).mono ?_
                rintro e wC ⟨rfl, hC⟩
                have HC := Lib.hid hC
                clear hC HB
                go_wp2_with fail
                refine (q6_true U H HC.out B1.out B2.out (by omega)).mono ?_
                rintro e wD ⟨rfl, hD⟩
                have HD := Lib.hid hD
                clear hD HC
                go_wp2_with fail
                refine ⟨⟨m + 1, sp2, by omega, by omega, rfl, rfl, kept_of HD.out B1.out B2.out B3.out⟩, ?_⟩
                show l.length - ((m : Int) + 1).toNat < l.length - (m : Int).toNat
                omega
            · rw [if_neg hful] at FU
              have two := Sto.keeps_two (cs := x.l.cs) (Hpl.out.lives.arm xarm) hn4 hbig.out (by have := Hpl.out.seq; omega) hchq.out (by rw [Hhw.out]; omega)
              have hfin := Lib.hid (Sto.doing_fine (n := n) (s := s) (cs := x.l.cs) (Hpl.out.fine.arm xarm Hhigh.out))
              have DO : Hid (∀ a, Q6 At Own W (.pointer (some p)) (.pointer (some sp)) n (d.arm xarm) s u12 s.vals nv (Sto.after s.vals x.l.cs) wr.heap.size #[.slice xA xl xc, .int .i64 xarm, .slice kA kn kc, .bool xag] a → Calls Tryz.prog 17 #[.pointer (some sp), .slice xA xl xc] a fun e w' => e = .returned (.int .i64 (Sto.doing n (d.arm xarm) s x.l.cs).1) ∧ Q6 At Own W (.pointer (some p)) (.pointer (some sp)) n (Sto.doing n (d.arm xarm) s x.l.cs).2.1 (Sto.doing n (d.arm xarm) s x.l.cs).2.2 u12 s.vals nv (Sto.after s.vals x.l.cs) wr.heap.size #[.slice xA xl xc, .int .i64 xarm, .slice kA kn kc, .bool xag] w') := Lib.hid (fun a ha =>
                ha.doing H (Hpl.out.lives.arm xarm) hg.out (Hpl.out.fine.arm xarm Hhigh.out) hn4 (by have := Hhk.out; omega) (hxc'.out _ ha.bel) hcl.out)
              have hwn : Hid (Sto.whole (Sto.after s.vals x.l.cs) ≤ 64 * hof n) := Lib.hid (by rw [Hhw.out]; omega)
              clear hful
              generalize (Sto.doing n (d.arm xarm) s x.l.cs).1 = g at *
              generalize (Sto.doing n (d.arm xarm) s x.l.cs).2.1 = dd at *
              generalize (Sto.doing n (d.arm xarm) s x.l.cs).2.2 = ss at *
              generalize Sto.after s.vals x.l.cs = next at *
              rcases two with ⟨rfl, t2, t3, t4, t5⟩ | ⟨rfl, t2, t3, t4⟩
              · have QQ : Hid (ss.quota = q) := Lib.hid (t4.trans Hsq.out)
                have LL : Hid (ss.vals = next) := Lib.hid t3
                have PL : Hid (Plain n (dd.arm 0) ss (3 + (m + 1) * 264) (1 + (m + 1))) := Lib.hid ⟨t2.arm 0, (hfin.out.arm 0 (by decide)).mono (by have := Hhk.out; omega), by rw [t4]; exact Hpl.out.quota, by rw [t3]; exact hwn.out, by have := Hpl.out.seq; omega⟩
                clear t2 t3 t4 t5
                go_wp2_with fail
                refine (FU.out).mono ?_
                rintro e w6c ⟨rfl, h6c⟩
                have H6c := Lib.hid h6c
                clear h6c FU H6b
                have r0H6c : w6c.cell? ⟨wr.heap.size, 0, none⟩ = some (.slice xA xl xc) := H6c.out.row.at 0
                have r1H6c : w6c.cell? ⟨wr.heap.size, 1, none⟩ = some (.int .i64 xarm) := H6c.out.row.at 1
                have r2H6c : w6c.cell? ⟨wr.heap.size, 2, none⟩ = some (.slice kA kn kc) := H6c.out.row.at 2
                have r3H6c : w6c.cell? ⟨wr.heap.size, 3, none⟩ = some (.bool xag) := H6c.out.row.at 3
                go_wp2_with fail
                refine (H6c.out.arm U H Hpl.out.fine (by omega) xarm Hlow.out Hhigh.out).mono ?_
                rintro e w7 ⟨rfl, h7⟩
                have H7 := Lib.hid h7
                clear h7 H6c
                have r0H7 : w7.cell? ⟨wr.heap.size, 0, none⟩ = some (.slice xA xl xc) := H7.out.row.at 0
                have r1H7 : w7.cell? ⟨wr.heap.size, 1, none⟩ = some (.int .i64 xarm) := H7.out.row.at 1
                have r2H7 : w7.cell? ⟨wr.heap.size, 2, none⟩ = some (.slice kA kn kc) := H7.out.row.at 2
                have r3H7 : w7.cell? ⟨wr.heap.size, 3, none⟩ = some (.bool xag) := H7.out.row.at 3
                go_wp2_with fail
                refine (DO.out _ H7.out).mono ?_
                rintro e w8 ⟨rfl, h8⟩
                have H8 := Lib.hid h8
                clear h8 H7 DO
                have r0H8 : w8.cell? ⟨wr.heap.size, 0, none⟩ = some (.slice xA xl xc) := H8.out.row.at 0
                have r1H8 : w8.cell? ⟨wr.heap.size, 1, none⟩ = some (.int .i64 xarm) := H8.out.row.at 1
                have r2H8 : w8.cell? ⟨wr.heap.size, 2, none⟩ = some (.slice kA kn kc) := H8.out.row.at 2
                have r3H8 : w8.cell? ⟨wr.heap.size, 3, none⟩ = some (.bool xag) := H8.out.row.at 3
                go_wp2_with fail
                refine (H8.out.arm U H hfin.out (by have := Hhk.out; omega) 0 (by decide) (by decide)).mono ?_
                rintro e w9 ⟨rfl, h9⟩
                have H9 := Lib.hid h9
                clear h9 H8
                have r0H9 : w9.cell? ⟨wr.heap.size, 0, none⟩ = some (.slice xA xl xc) := H9.out.row.at 0
                have r1H9 : w9.cell? ⟨wr.heap.size, 1, none⟩ = some (.int .i64 xarm) := H9.out.row.at 1
                have r2H9 : w9.cell? ⟨wr.heap.size, 2, none⟩ = some (.slice kA kn kc) := H9.out.row.at 2
                have r3H9 : w9.cell? ⟨wr.heap.size, 3, none⟩ = some (.bool xag) := H9.out.row.at 3
                have H9t := Lib.hid H9.out.turn
                cases xag
                · go_wp2_with fail
                  refine (q6_true U H H9t.out LL.out PL.out (by omega)).mono ?_
                  rintro e wA ⟨rfl, hA⟩
                  have HA := Lib.hid hA
                  clear hA
                  go_wp2_with fail
                  refine (q6_quota H HA.out QQ.out).mono ?_
                  rintro e wB ⟨rfl, hB⟩
                  have HB := Lib.hid hB
                  clear hB HA
                  go_wp2_with fail
                  refine ⟨⟨m + 1, sp, by omega, by omega, rfl, rfl, kept_of HB.out LL.out PL.out QQ.out⟩, ?_⟩
                  show l.length - ((m : Int) + 1).toNat < l.length - (m : Int).toNat
                  omega
                · go_wp2_with fail
                  refine (H9t.out.crash U H (PL.out.fine) (by omega) Hkeep.out Heach.out Hfew.out).mono ?_
                  rintro e wA ⟨rfl, hA⟩
                  have HA := Lib.hid hA
                  clear hA
                  go_wp2_with fail
                  refine (q6_again U H HA.out LL.out PL.out QQ.out hn4 (by omega)).mono ?_
                  rintro e wB ⟨sp2, s9, rfl, hB, b1, b2, b3⟩
                  have HB := Lib.hid hB
                  have B1 := Lib.hid b1
                  have B2 := Lib.hid b2
                  have B3 := Lib.hid b3
                  clear hB b1 b2 b3 HA
                  go_wp2_with fail
                  refine (q6_true U H HB.out B1.out B2.out (by omega)).mono ?_
                  rintro e wC ⟨rfl, hC⟩
                  have HC := Lib.hid hC
                  clear hC HB
                  go_wp2_with fail
                  refine (q6_true U H HC.out B1.out B2.out (by omega)).mono ?_
                  rintro e wD ⟨rfl, hD⟩
                  have HD := Lib.hid hD
                  clear hD HC
                  go_wp2_with fail
                  refine ⟨⟨m + 1, sp2, by omega, by omega, rfl, rfl, kept_of HD.out B1.out B2.out B3.out⟩, ?_⟩
                  show l.length - ((m : Int) + 1).toNat < l.length - (m : Int).toNat
                  omega
              · have hbr : Hid (ss.broken = true) := Lib.hid t2
                have hfall : Hid (Sto.Falls n (dd.arm 0) s.vals next (1 + (m + 1))) := Lib.hid (by
                  obtain ⟨j1, r1, j2, r2, f1, f2, f3, f4, f5⟩ := (t4.arm 0).two
                  have := Hpl.out.seq
                  exact ⟨j1, r1, j2, r2, f1, f2, f3, by omega, by omega⟩)
                have hff : Hid ((dd.arm 0).Fine (3 + (m + 1) * 264)) := Lib.hid ((hfin.out.arm 0 (by decide)).mono (by have := Hhk.out; omega))
                clear t2 t3 t4
                go_wp2_with fail
                refine (FU.out).mono ?_
                rintro e w6c ⟨rfl, h6c⟩
                have H6c := Lib.hid h6c
                clear h6c FU H6b
                have r0H6c : w6c.cell? ⟨wr.heap.size, 0, none⟩ = some (.slice xA xl xc) := H6c.out.row.at 0
                have r1H6c : w6c.cell? ⟨wr.heap.size, 1, none⟩ = some (.int .i64 xarm) := H6c.out.row.at 1
                have r2H6c : w6c.cell? ⟨wr.heap.size, 2, none⟩ = some (.slice kA kn kc) := H6c.out.row.at 2
                have r3H6c : w6c.cell? ⟨wr.heap.size, 3, none⟩ = some (.bool xag) := H6c.out.row.at 3
                go_wp2_with fail
                refine (H6c.out.arm U H Hpl.out.fine (by omega) xarm Hlow.out Hhigh.out).mono ?_
                rintro e w7 ⟨rfl, h7⟩
                have H7 := Lib.hid h7
                clear h7 H6c
                have r0H7 : w7.cell? ⟨wr.heap.size, 0, none⟩ = some (.slice xA xl xc) := H7.out.row.at 0
                have r1H7 : w7.cell? ⟨wr.heap.size, 1, none⟩ = some (.int .i64 xarm) := H7.out.row.at 1
                have r2H7 : w7.cell? ⟨wr.heap.size, 2, none⟩ = some (.slice kA kn kc) := H7.out.row.at 2
                have r3H7 : w7.cell? ⟨wr.heap.size, 3, none⟩ = some (.bool xag) := H7.out.row.at 3
                go_wp2_with fail
                refine (DO.out _ H7.out).mono ?_
                rintro e w8 ⟨rfl, h8⟩
                have H8 := Lib.hid h8
                clear h8 H7 DO
                have r0H8 : w8.cell? ⟨wr.heap.size, 0, none⟩ = some (.slice xA xl xc) := H8.out.row.at 0
                have r1H8 : w8.cell? ⟨wr.heap.size, 1, none⟩ = some (.int .i64 xarm) := H8.out.row.at 1
                have r2H8 : w8.cell? ⟨wr.heap.size, 2, none⟩ = some (.slice kA kn kc) := H8.out.row.at 2
                have r3H8 : w8.cell? ⟨wr.heap.size, 3, none⟩ = some (.bool xag) := H8.out.row.at 3
                go_wp2_with fail
                refine (H8.out.arm U H hfin.out (by have := Hhk.out; omega) 0 (by decide) (by decide)).mono ?_
                rintro e w9 ⟨rfl, h9⟩
                have H9 := Lib.hid h9
                clear h9 H8
                have r0H9 : w9.cell? ⟨wr.heap.size, 0, none⟩ = some (.slice xA xl xc) := H9.out.row.at 0
                have r1H9 : w9.cell? ⟨wr.heap.size, 1, none⟩ = some (.int .i64 xarm) := H9.out.row.at 1
                have r2H9 : w9.cell? ⟨wr.heap.size, 2, none⟩ = some (.slice kA kn kc) := H9.out.row.at 2
                have r3H9 : w9.cell? ⟨wr.heap.size, 3, none⟩ = some (.bool xag) := H9.out.row.at 3
                have BR := Lib.hid (H9.out.broken H)
                rw [hbr.out] at BR
                go_wp2_with fail
                refine (BR.out).mono ?_
                rintro e w9b ⟨rfl, h9b⟩
                have H9b := Lib.hid h9b
                clear h9b H9 BR
                have r0H9b : w9b.cell? ⟨wr.heap.size, 0, none⟩ = some (.slice xA xl xc) := H9b.out.row.at 0
                have r1H9b : w9b.cell? ⟨wr.heap.size, 1, none⟩ = some (.int .i64 xarm) := H9b.out.row.at 1
                have r2H9b : w9b.cell? ⟨wr.heap.size, 2, none⟩ = some (.slice kA kn kc) := H9b.out.row.at 2
                have r3H9b : w9b.cell? ⟨wr.heap.size, 3, none⟩ = some (.bool xag) := H9b.out.row.at 3
                go_wp2_with fail
                refine (H9b.out.crash U H hff.out (by omega) Hkeep.out Heach.out Hfew.out).mono ?_
                rintro e wA ⟨rfl, hA⟩
                have HA := Lib.hid hA
                clear hA H9b
                obtain ⟨j9, recs9, v9, hv9, o1, o2, o3, o4⟩ := hfall.out.crash hn4 x.ks q
                have OP := Lib.hid (HA.out.again U H o3 (hff.out.crash x.ks) hn4 (by omega) hq0 hq9)
                have hwv : Sto.whole v9 ≤ 64 * hof n := by
                  rcases hv9 with e | e
                  · rw [e]; exact Hpl.out.whole
                  · rw [e]; exact hwn.out
                have PL : Hid (Plain n ((dd.arm 0).crash x.ks) ⟨j9, v9, q, false⟩ (3 + (m + 1) * 264) (1 + (m + 1))) := Lib.hid ⟨o3, hff.out.crash x.ks, ⟨hq0, hq9⟩, hwv, o4⟩
                clear o1 o2 o3 o4 hwv
                go_wp2_with fail
                refine (OP.out).mono ?_
                rintro e wB ⟨sp2, rfl, hB⟩
                have HB := Lib.hid hB
                clear hB HA OP
                by_cases hve : v9 = s.vals
                · have LL : Hid ((⟨j9, v9, q, false⟩ : Sto.Sr).vals = s.vals) := Lib.hid hve
                  clear hve hv9
                  go_wp2_with fail
                  refine (q6_true U H HB.out LL.out PL.out (by omega)).mono ?_
                  rintro e wC ⟨rfl, hC⟩
                  have HC := Lib.hid hC
                  clear hC HB
                  go_wp2_with fail
                  refine (q6_true U H HC.out LL.out PL.out (by omega)).mono ?_
                  rintro e wD ⟨rfl, hD⟩
                  have HD := Lib.hid hD
                  clear hD HC
                  go_wp2_with fail
                  refine ⟨⟨m + 1, sp2, by omega, by omega, rfl, rfl, kept_of HD.out LL.out PL.out rfl⟩, ?_⟩
                  show l.length - ((m : Int) + 1).toNat < l.length - (m : Int).toNat
                  omega
                · have LN : Hid ((⟨j9, v9, q, false⟩ : Sto.Sr).vals = next) := Lib.hid (hv9.resolve_left hve)
                  have g9 := Lib.hid (PL.out.good (by omega))
                  have NO : Hid (∀ a, Q6 At Own W (.pointer (some p)) (.pointer (some sp2)) n ((dd.arm 0).crash x.ks) ⟨j9, v9, q, false⟩ u12 s.vals nv next wr.heap.size #[.slice xA xl xc, .int .i64 xarm, .slice kA kn kc, .bool xag] a → Calls Tryz.prog 19 #[.pointer (some sp2), u12] a fun e w' => e = .returned (.bool false) ∧ Q6 At Own W (.pointer (some p)) (.pointer (some sp2)) n ((dd.arm 0).crash x.ks) ⟨j9, v9, q, false⟩ u12 s.vals nv next wr.heap.size #[.slice xA xl xc, .int .i64 xarm, .slice kA kn kc, .bool xag] w') := Lib.hid (fun a ha => by
                    have := ha.same1 U H g9.out hg.out.few hg.out.fit
                    rw [decide_eq_false hve] at this
                    exact this)
                  have YES : Hid (∀ a, Q6 At Own W (.pointer (some p)) (.pointer (some sp2)) n ((dd.arm 0).crash x.ks) ⟨j9, v9, q, false⟩ u12 s.vals nv next wr.heap.size #[.slice xA xl xc, .int .i64 xarm, .slice kA kn kc, .bool xag] a → Calls Tryz.prog 19 #[.pointer (some sp2), nv] a fun e w' => e = .returned (.bool true) ∧ Q6 At Own W (.pointer (some p)) (.pointer (some sp2)) n ((dd.arm 0).crash x.ks) ⟨j9, v9, q, false⟩ u12 s.vals nv next wr.heap.size #[.slice xA xl xc, .int .i64 xarm, .slice kA kn kc, .bool xag] w') := Lib.hid (fun a ha => by
                    have := ha.same2 U H g9.out (by rw [← LN.out]; exact g9.out.few) (by rw [← LN.out]; exact g9.out.fit)
                    rw [decide_eq_true LN.out] at this
                    exact this)
                  clear hve hv9
                  go_wp2_with fail
                  refine (NO.out _ HB.out).mono ?_
                  rintro e wC ⟨rfl, hC⟩
                  have HC := Lib.hid hC
                  clear hC HB
                  go_wp2_with fail
                  refine (YES.out _ HC.out).mono ?_
                  rintro e wD ⟨rfl, hD⟩
                  have HD := Lib.hid hD
                  clear hD HC
                  go_wp2_with fail
                  refine (NO.out _ HD.out).mono ?_
                  rintro e wE ⟨rfl, hE⟩
                  have HE := Lib.hid hE
                  clear hE HD
                  go_wp2_with fail
                  refine ⟨⟨m + 1, sp2, by omega, by omega, rfl, rfl, kept_of HE.out.turn LN.out PL.out rfl⟩, ?_⟩
                  show l.length - ((m : Int) + 1).toNat < l.length - (m : Int).toNat
                  omega
          · have hbad : Hid (∀ x1, Sto.doing n (d.arm x1) s x.l.cs = (Sto.check s.vals x.l.cs q, d.arm x1, s)) := Lib.hid (fun x1 => by
              have := Sto.doing_bad (n := n) (d := d.arm x1) (s := s) (cs := x.l.cs) (by rw [Hsq.out]; exact hch)
              rw [Hsq.out] at this
              exact this)
            have c1 : (Sto.check s.vals x.l.cs q == 0) = false := by rw [beq_eq_false_iff_ne]; exact hch
            have c2 : (Sto.check s.vals x.l.cs q != 0) = true := by rw [bne_iff_ne]; exact hch
            have c3 : (Sto.check s.vals x.l.cs q != 12) = true := by
              rw [bne_iff_ne]
              unfold Sto.check
              repeat' split
              all_goals decide
            have DO : Hid (∀ a, Q6 At Own W (.pointer (some p)) (.pointer (some sp)) n (d.arm xarm) s u12 s.vals u12 s.vals wr.heap.size #[.slice xA xl xc, .int .i64 xarm, .slice kA kn kc, .bool xag] a → Calls Tryz.prog 17 #[.pointer (some sp), .slice xA xl xc] a fun e w' => e = .returned (.int .i64 (Sto.check s.vals x.l.cs q)) ∧ Q6 At Own W (.pointer (some p)) (.pointer (some sp)) n (d.arm xarm) s u12 s.vals u12 s.vals wr.heap.size #[.slice xA xl xc, .int .i64 xarm, .slice kA kn kc, .bool xag] w') := Lib.hid (fun a ha => by
              have := ha.doing H (Hpl.out.lives.arm xarm) hg.out (Hpl.out.fine.arm xarm Hhigh.out) hn4 (by have := Hhk.out; omega) (hxc'.out _ ha.bel) hcl.out
              rw [hbad.out xarm] at this
              exact this)
            have PL : Hid (Plain n ((d.arm xarm).arm 0) s (3 + (m + 1) * 264) (1 + (m + 1))) := Lib.hid ⟨(Hpl.out.lives.arm xarm).arm 0, ((Hpl.out.fine.arm xarm Hhigh.out).arm 0 (by decide)).mono (by omega), Hpl.out.quota, Hpl.out.whole, by have := Hpl.out.seq; omega⟩
            clear hbad hch
            generalize Sto.check s.vals x.l.cs q = ck at *
            go_wp2_with fail
            refine (CK.out).mono ?_
            rintro e w6 ⟨rfl, h6⟩
            have H6 := Lib.hid h6
            clear h6 CK H5
            have r0H6 : w6.cell? ⟨wr.heap.size, 0, none⟩ = some (.slice xA xl xc) := H6.out.row.at 0
            have r1H6 : w6.cell? ⟨wr.heap.size, 1, none⟩ = some (.int .i64 xarm) := H6.out.row.at 1
            have r2H6 : w6.cell? ⟨wr.heap.size, 2, none⟩ = some (.slice kA kn kc) := H6.out.row.at 2
            have r3H6 : w6.cell? ⟨wr.heap.size, 3, none⟩ = some (.bool xag) := H6.out.row.at 3
            go_wp2_with fail
            refine (H6.out.arm U H Hpl.out.fine (by omega) xarm Hlow.out Hhigh.out).mono ?_
            rintro e w7 ⟨rfl, h7⟩
            have H7 := Lib.hid h7
            clear h7 H6
            have r0H7 : w7.cell? ⟨wr.heap.size, 0, none⟩ = some (.slice xA xl xc) := H7.out.row.at 0
            have r1H7 : w7.cell? ⟨wr.heap.size, 1, none⟩ = some (.int .i64 xarm) := H7.out.row.at 1
            have r2H7 : w7.cell? ⟨wr.heap.size, 2, none⟩ = some (.slice kA kn kc) := H7.out.row.at 2
            have r3H7 : w7.cell? ⟨wr.heap.size, 3, none⟩ = some (.bool xag) := H7.out.row.at 3
            go_wp2_with fail
            refine (DO.out _ H7.out).mono ?_
            rintro e w8 ⟨rfl, h8⟩
            have H8 := Lib.hid h8
            clear h8 H7 DO
            have r0H8 : w8.cell? ⟨wr.heap.size, 0, none⟩ = some (.slice xA xl xc) := H8.out.row.at 0
            have r1H8 : w8.cell? ⟨wr.heap.size, 1, none⟩ = some (.int .i64 xarm) := H8.out.row.at 1
            have r2H8 : w8.cell? ⟨wr.heap.size, 2, none⟩ = some (.slice kA kn kc) := H8.out.row.at 2
            have r3H8 : w8.cell? ⟨wr.heap.size, 3, none⟩ = some (.bool xag) := H8.out.row.at 3
            go_wp2_with fail
            refine (H8.out.arm U H (Hpl.out.fine.arm xarm Hhigh.out) (by omega) 0 (by decide) (by decide)).mono ?_
            rintro e w9 ⟨rfl, h9⟩
            have H9 := Lib.hid h9
            clear h9 H8
            have r0H9 : w9.cell? ⟨wr.heap.size, 0, none⟩ = some (.slice xA xl xc) := H9.out.row.at 0
            have r1H9 : w9.cell? ⟨wr.heap.size, 1, none⟩ = some (.int .i64 xarm) := H9.out.row.at 1
            have r2H9 : w9.cell? ⟨wr.heap.size, 2, none⟩ = some (.slice kA kn kc) := H9.out.row.at 2
            have r3H9 : w9.cell? ⟨wr.heap.size, 3, none⟩ = some (.bool xag) := H9.out.row.at 3
            cases xag
            · go_wp2_with fail
              refine (q6_true U H H9.out rfl PL.out (by omega)).mono ?_
              rintro e wA ⟨rfl, hA⟩
              have HA := Lib.hid hA
              clear hA
              go_wp2_with fail
              refine (q6_quota H HA.out Hsq.out).mono ?_
              rintro e wB ⟨rfl, hB⟩
              have HB := Lib.hid hB
              clear hB HA
              go_wp2_with fail
              refine ⟨⟨m + 1, sp, by omega, by omega, rfl, rfl, kept_of HB.out rfl PL.out Hsq.out⟩, ?_⟩
              show l.length - ((m : Int) + 1).toNat < l.length - (m : Int).toNat
              omega
            · go_wp2_with fail
              refine (H9.out.crash U H (PL.out.fine) (by omega) Hkeep.out Heach.out Hfew.out).mono ?_
              rintro e wA ⟨rfl, hA⟩
              have HA := Lib.hid hA
              clear hA
              go_wp2_with fail
              refine (q6_again U H HA.out rfl PL.out Hsq.out hn4 (by omega)).mono ?_
              rintro e wB ⟨sp2, s9, rfl, hB, b1, b2, b3⟩
              have HB := Lib.hid hB
              have B1 := Lib.hid b1
              have B2 := Lib.hid b2
              have B3 := Lib.hid b3
              clear hB b1 b2 b3 HA
              go_wp2_with fail
              refine (q6_true U H HB.out B1.out B2.out (by omega)).mono ?_
              rintro e wC ⟨rfl, hC⟩
              have HC := Lib.hid hC
              clear hC HB
              go_wp2_with fail
              refine (q6_true U H HC.out B1.out B2.out (by omega)).mono ?_
              rintro e wD ⟨rfl, hD⟩
              have HD := Lib.hid hD
              clear hD HC
              go_wp2_with fail
              refine ⟨⟨m + 1, sp2, by omega, by omega, rfl, rfl, kept_of HD.out B1.out B2.out B3.out⟩, ?_⟩
              show l.length - ((m : Int) + 1).toNat < l.length - (m : Int).toNat
              omega
        · rw [decide_eq_false hli] at L1
          clear hli
          go_wp2_with fail
          refine (L1.out).mono ?_
          rintro e w4 ⟨rfl, rfl⟩
          go_wp2_with fail
          refine ⟨⟨m + 1, sp, by omega, by omega, rfl, rfl, kept_of HQ0.out rfl (Hpl.out.mono (by omega) (by omega)) Hsq.out⟩, ?_⟩
          show l.length - ((m : Int) + 1).toNat < l.length - (m : Int).toNat
          omega
      · have hcase : (¬ (m : Int) < (len : Int)) ∨ ((m : Int) < (len : Int) ∧ ¬ (m : Int) < 30) := by omega
        have HB := Lib.hid HK.out.bel
        clear HK hgo
        rcases hcase with hq1 | ⟨hq1, hq2⟩
        all_goals
          go_wp2_with fail
          go_ret
          exact ⟨rfl, HB.out⟩
end
end Go.Proofs.YtbfjageaheijbaaGreat
namespace Go.Proofs.YtbfjageaheijbaaGreat
open Go.RowKit

open Go.ChangeShapes Go.WideShapes Go.ChangeAt
open Go.ChangeMaps (open_string shut_string)

set_option maxRecDepth 100000 in
theorem storeKeeps_lifted (os : Os) (started : os.Started) (H : Type) (enc : TypeId × Value → H) :
    ReturnsInHanded {} Tryz.checked os 3 .any (Rows.storeKeepsSpec.pre6 enc Tryz.prog Tryz.f3 Rows.storeKeepsRow.domain false) (Rows.storeKeepsSpec.post enc Tryz.prog Tryz.f3 false true false false) := by
  refine returnsInHanded_of_change_sized (C := Tryz.checked) own started (by kernel_rfl) Tryz.func3
    (ChangeSpec.witness6 (enc := enc) (C := Tryz.checked) false ⟨#[], #[.int .u8 0, .int .i64 0, .slice none 0 0], []⟩ 8 (by kernel_rfl) (by kernel_rfl) (by kernel_rfl) (by kernel_rfl)) ?_
  intro W base args ds gs before hval0 hW _ hsz _
  have hval : ∀ (j : Nat) t v, Tryz.f3.params[j]? = some t → args[j]? = some v → Value.okWide Tryz.prog W .any base t v := hval0
  have hW0 := hW
  obtain ⟨p, q, hA0, hV, _, _, _⟩ := hW
  have hA : DataW.TrodAll enc Tryz.prog W 0 (fun _ => true) true Tryz.f3.params.toList args.toList ds p := hA0
  rw [Tryz.params3] at hA hval hsz
  obtain ⟨v0, vs0, d0, ds0, p0, q0, hargs, rfl, rfl, h0, r0⟩ := trodAll_cons hA
  obtain ⟨v1, vs1, d1, ds1, p1, q1, rfl, rfl, rfl, h1, r1⟩ := trodAll_cons r0
  obtain ⟨v2, vs2, d2, ds2, p2, q2, rfl, rfl, rfl, h2, r2⟩ := trodAll_cons r1
  obtain ⟨rfl, rfl, rfl⟩ := trodAll_nil r2
  obtain rfl : args = #[v0, v1, v2] := by cases args; simp_all
  obtain ⟨n, rfl, rfl, rfl, nw⟩ := open_int Tryz.underlying5 (hval 0 5 v0 rfl rfl) h0
  have nb := bounds_u8 nw
  obtain ⟨nn, rfl⟩ := Int.eq_ofNat_of_zero_le nb.1
  obtain ⟨q, rfl, rfl, rfl, qw⟩ := open_int Tryz.underlying3 (hval 1 3 v1 rfl rfl) h1
  have qb := bounds_i64 qw
  obtain ⟨lA, ln, lc, l, rfl, hlc, hl63, hin⟩ := open_acs (okWide_slice Tryz.underlying22 (hval 2 22 v2 rfl rfl)) h2
  obtain ⟨rfl, rfl⟩ := trodVars_none hV
  refine (keeps_walk disk_use store_ok lA ln lc l W hlc hl63 hin nn (by omega) q (by omega) (by omega)).mono fun e W' ⟨he, hg⟩ => ?_
  subst he
  exact ⟨_, rfl, law_done (by kernel_rfl) rfl hW0 rfl (by rw [Tryz.params3]; decide +kernel) hg⟩

set_option maxRecDepth 100000 in
theorem storeKeeps_over : Rows.storeKeepsRow.holds Tryz.pinned (OpenSpec.ofChange Rows.storeKeepsSpec) :=
  OpenClaim.holds_of_wide 3 Tryz.f3 rfl rfl rfl rfl rfl rfl rfl ⟨rfl, rfl, rfl, rfl, rfl⟩ rfl rfl rfl rfl rfl (by kernel_rfl) Tryz.func3 (by kernel_rfl)
    (of_decide_eq_true (by kernel_rfl)) (by unfold Func.isWrapper; first | (rw [if_pos (by decide +kernel)]; kernel_rfl) | (rw [if_neg (by decide +kernel)]; exact ⟨rfl, rfl⟩))
    (fun os started H enc _ => storeKeeps_lifted os started H enc)

set_option maxRecDepth 100000 in
/-- The statement. -/
theorem storeKeeps_holds : Rows.StoreKeepsSaid := storeKeeps_over
#print axioms storeKeeps_holds
end Go.Proofs.YtbfjageaheijbaaGreat
