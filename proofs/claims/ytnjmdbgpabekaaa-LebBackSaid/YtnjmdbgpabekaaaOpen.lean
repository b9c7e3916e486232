/- What came in, opened: a slice of fields, a slice of bools. -/
import Derived.Test.YtnjmdbgpabekaaaFrame
import Derived.Test.YtnjmdbgpabekaaaLay
import Derived.Deep.Slices
import Derived.Deep.Fields
namespace Go.Proofs.Ytnjmdbgpabekaaa
open Go.ChangeShapes Go.WideShapes Go.ChangeAt Go.RowKit Go.Deep

theorem fieldCells : Try.prog.cellsOf 25 = 3 := by kernel_rfl
theorem intCells : Try.prog.cellsOf 3 = 1 := by kernel_rfl
theorem stringCells : Try.prog.cellsOf 9 = 1 := by kernel_rfl
theorem boolCells : Try.prog.cellsOf 4 = 1 := by kernel_rfl

/-- A slice value that reads as these fields. -/
def FieldsIn (W : World) (A : Option Addr) (len : Nat) (fs : List Fl) : Prop :=
  fs.length = len ∧ Fits fs ∧ (0 < len → ∃ b off, A = some ⟨b, off, none⟩ ∧ b < W.heap.size ∧ FieldsAt W b off fs)

/-- A slice value that reads as these bools. -/
def BoolsIn (W : World) (A : Option Addr) (len : Nat) (l : List Bool) : Prop :=
  l.length = len ∧ (0 < len → ∃ b off, A = some ⟨b, off, none⟩ ∧ b < W.heap.size ∧ ∀ i x, l[i]? = some x → W.cell? ⟨b, off + i, none⟩ = some (.bool x))

theorem in_heap {W : World} {a : Addr} {v : Value} (h : W.cell? a = some v) : a.block < W.heap.size ∧ a.spot = none := by
  refine ⟨World.block_lt_of_cell? W a h, ?_⟩
  exact World.cell?_spot h

/-- From 'for each index there is one' to a list. -/
theorem list_of {α : Type} {p : Nat → α → Prop} : ∀ n, (∀ i, i < n → ∃ x, p i x) → ∃ l : List α, l.length = n ∧ ∀ i x, l[i]? = some x → p i x
  | 0, _ => ⟨[], rfl, fun i x h => by simp at h⟩
  | n + 1, h => by
    obtain ⟨l, hl, hp⟩ := list_of n (fun i hi => h i (by omega))
    obtain ⟨x, hx⟩ := h n (by omega)
    refine ⟨l ++ [x], by simp [hl], fun i y hy => ?_⟩
    by_cases hi : i < n
    · rw [List.getElem?_append_left (by omega)] at hy
      exact hp i y hy
    · have hin : i < (l ++ [x]).length := (List.getElem?_eq_some_iff.1 hy).1
      have : i = n := by simp [hl] at hin; omega
      subst this
      rw [List.getElem?_append_right (by omega), hl, Nat.sub_self] at hy
      simp at hy
      rw [← hy]; exact hx

section
variable {H : Type} {enc : TypeId × Value → H}

theorem open_bools {W : World} {v : Value} {d : DataW H} {p : List MemPlace} (hv : ∃ a len cap, v = .slice a len cap) (h : DataW.Trod enc Try.prog W 0 (fun _ => true) true 32 v d p) :
    ∃ A len cap l, v = .slice A len cap ∧ len ≤ cap ∧ len ≤ 9223372036854775807 ∧ BoolsIn W A len l := by
  obtain ⟨A, len, cap, rfl⟩ := hv
  obtain ⟨fuel, hf⟩ := h
  rcases open_slice Try.underlying32 hf with ⟨hcs, _⟩ | ⟨a, len', cap', m, n, D, Pl, hcs, _, hl, hm, hmm, _, hi⟩
  · simp [Value.cells] at hcs
    obtain ⟨rfl, rfl, rfl⟩ := hcs
    exact ⟨none, 0, 0, [], rfl, Nat.le_refl _, by omega, rfl, fun h => absurd h (by omega)⟩
  · simp [Value.cells] at hcs
    obtain ⟨rfl, rfl, rfl⟩ := hcs
    simp at hmm
    unfold maxLen at hm
    have hcell : ∀ i, i < len → ∃ x : Bool, W.cell? (a.add i) = some (.bool x) := by
      intro i hil
      obtain ⟨cs', hc, ht⟩ := hi i (by omega)
      rw [boolCells] at hc
      obtain ⟨x, hx, _⟩ := DataW.trod_bool Try.underlying4 ht
      obtain ⟨_, _, hat⟩ := World.cells?_some hc
      have h0 := hat 0 (by omega)
      rw [hx, Nat.mul_one, Go.Deep.add_add] at h0
      exact ⟨x, by simpa using h0⟩
    obtain ⟨l, hll, hlp⟩ := list_of len hcell
    refine ⟨some a, len, cap, l, rfl, hl, by omega, hll, fun hpos => ?_⟩
    obtain ⟨x0, h0⟩ := hcell 0 hpos
    have hb := in_heap h0
    obtain ⟨b, off, spot⟩ := a
    have hs : spot = none := by simpa [Addr.add] using hb.2
    subst hs
    refine ⟨b, off, rfl, by simpa [Addr.add] using hb.1, fun i x hx => ?_⟩
    rw [← Go.WideShapes.add_plain]
    exact hlp i x hx

theorem open_fields {W : World} {v : Value} {d : DataW H} {p : List MemPlace} (hv : ∃ a len cap, v = .slice a len cap) (h : DataW.Trod enc Try.prog W 0 (fun _ => true) true 22 v d p) :
    ∃ A len cap fs, v = .slice A len cap ∧ len ≤ cap ∧ len ≤ 9223372036854775807 ∧ FieldsIn W A len fs := by
  obtain ⟨A, len, cap, rfl⟩ := hv
  obtain ⟨fuel, hf⟩ := h
  rcases open_slice Try.underlying22 hf with ⟨hcs, _⟩ | ⟨a, len', cap', m, n, D, Pl, hcs, _, hl, hm, hmm, _, hi⟩
  · simp [Value.cells] at hcs
    obtain ⟨rfl, rfl, rfl⟩ := hcs
    exact ⟨none, 0, 0, [], rfl, Nat.le_refl _, by omega, rfl, fun i f hf => by simp at hf, fun h => absurd h (by omega)⟩
  · simp [Value.cells] at hcs
    obtain ⟨rfl, rfl, rfl⟩ := hcs
    simp at hmm
    unfold maxLen at hm
    have hcell : ∀ i, i < len → ∃ f : Fl, (W.cell? (a.add (i * 3)) = some (.int .i64 f.num) ∧ W.cell? (a.add (i * 3 + 1)) = some (.string f.txt) ∧ W.cell? (a.add (i * 3 + 2)) = some (.bool f.isT)) ∧
        f.head < 9223372036854775808 ∧ f.body.size ≤ 9223372036854775807 := by
      intro i hil
      obtain ⟨cs', hc, ht⟩ := hi i (by omega)
      rw [fieldCells] at hc
      obtain ⟨_, hcl, hat⟩ := World.cells?_some hc
      obtain ⟨xs, n', _, _, _, hxs, hfs⟩ := DataW.trod_struct Try.underlying25 ht
      match cs', hcl with
      | [c0, c1, c2], _ =>
        have hl3 : xs.length = 3 := hxs
        have k0 : DataW.trod enc Try.prog W 0 (fun _ => true) true n' 3 (([c0, c1, c2].drop 0).take (Try.prog.cellsOf 3)) = xs[0]? := hfs 0 _ rfl
        have k1 : DataW.trod enc Try.prog W 0 (fun _ => true) true n' 9 (([c0, c1, c2].drop 1).take (Try.prog.cellsOf 9)) = xs[1]? := hfs 1 _ rfl
        have k2 : DataW.trod enc Try.prog W 0 (fun _ => true) true n' 4 (([c0, c1, c2].drop 2).take (Try.prog.cellsOf 4)) = xs[2]? := hfs 2 _ rfl
        rw [intCells, List.getElem?_eq_getElem (by omega)] at k0
        rw [stringCells, List.getElem?_eq_getElem (by omega)] at k1
        rw [boolCells, List.getElem?_eq_getElem (by omega)] at k2
        obtain ⟨num, hn, _, hwn⟩ := DataW.trod_int Try.underlying3 k0
        obtain ⟨txt, hs, _, hws⟩ := DataW.trod_string Try.underlying9 k1
        obtain ⟨isT, hb, _⟩ := DataW.trod_bool Try.underlying4 k2
        have e0 : c0 = .int .i64 num := by simpa using hn
        have e1 : c1 = .string txt := by simpa using hs
        have e2 : c2 = .bool isT := by simpa using hb
        have bn := bounds_i64 hwn
        unfold maxLen at hws
        refine ⟨⟨num, txt, isT⟩, ⟨?_, ?_, ?_⟩, ?_, ?_⟩
        · have := hat 0 (by omega)
          rw [e0, Go.Deep.add_add] at this
          exact this
        · have := hat 1 (by omega)
          rw [e1, Go.Deep.add_add] at this
          exact this
        · have := hat 2 (by omega)
          rw [e2, Go.Deep.add_add] at this
          exact this
        · cases isT
          · show num < _
            omega
          · show (txt.size : Int) < _
            omega
        · cases isT
          · exact Nat.zero_le _
          · show txt.size ≤ _
            omega
    obtain ⟨fs, hfl, hfp⟩ := list_of len hcell
    refine ⟨some a, len, cap, fs, rfl, hl, by omega, hfl, fun i f hf => (hfp i f hf).2, fun hpos => ?_⟩
    obtain ⟨f0, h0, _⟩ := hcell 0 hpos
    have hb := in_heap h0.1
    obtain ⟨b, off, spot⟩ := a
    have hs : spot = none := by simpa [Addr.add] using hb.2
    subst hs
    refine ⟨b, off, rfl, by simpa [Addr.add] using hb.1, fun i f hf => ?_⟩
    have := (hfp i f hf).1
    rw [Go.WideShapes.add_plain, Go.WideShapes.add_plain, Go.WideShapes.add_plain] at this
    exact this
end
end Go.Proofs.Ytnjmdbgpabekaaa
