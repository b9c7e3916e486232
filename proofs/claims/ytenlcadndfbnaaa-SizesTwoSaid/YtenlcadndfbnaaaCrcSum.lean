/- The document's own answer of layer 2: the sum by division. -/
import Derived.Test.YtenlcadndfbnaaaCrcBits
import Derived.Test.YtenlcadndfbnaaaCrcDiv
import Derived.BigRegion
import Derived.Laws.OwnMore
namespace Go.Proofs.Ytenlcadndfbnaaa
open Go.RowKit

def powCells : Array Value := #[.int .i64 28, .int .i64 27, .int .i64 26, .int .i64 25, .int .i64 23, .int .i64 22, .int .i64 20, .int .i64 19, .int .i64 18, .int .i64 14, .int .i64 13, .int .i64 11, .int .i64 10, .int .i64 9, .int .i64 8, .int .i64 6, .int .i64 0]

set_option maxRecDepth 100000 in
theorem powCells_at (k p : Nat) (h : Crc.pows[k]? = some p) : powCells[k]? = some (.int .i64 p) := by
  have hk : k < 17 := (List.getElem?_eq_some_iff.1 h).1
  have : ∀ j : Fin 17, powCells[j.val]? = (Crc.pows[j.val]?).map fun q => Value.int .i64 (q : Int) := by
    intro j
    match j with
    | ⟨0, _⟩ | ⟨1, _⟩ | ⟨2, _⟩ | ⟨3, _⟩ | ⟨4, _⟩ | ⟨5, _⟩ | ⟨6, _⟩ | ⟨7, _⟩ | ⟨8, _⟩ | ⟨9, _⟩ | ⟨10, _⟩ | ⟨11, _⟩ | ⟨12, _⟩ | ⟨13, _⟩ | ⟨14, _⟩ | ⟨15, _⟩ | ⟨16, _⟩ => rfl
    | ⟨n + 17, h⟩ => exact absurd h (by omega)
  rw [this ⟨k, hk⟩, h]
  rfl

/-- The call's own row of bits at block g. -/
def Cel (w : World) (g n cap : Nat) (B : List Bool) (wr : World) : Prop := B.length = n ∧ w.heap.size ≤ g ∧ wr.ownsRow w.heap.size 4 1 (.slice (some ⟨g, 0, none⟩) n cap) n (bools B) ∧ Below w.heap.size w wr

set_option maxRecDepth 100000 in
theorem Cel.at {w wr : World} {g n cap : Nat} {B : List Bool} (h : Cel w g n cap B wr) {j : Nat} (hj : j < n) : wr.cell? ⟨g, j, none⟩ = some (.bool (B.getD j false)) := by
  rw [h.2.2.1.cellAt j (by omega)]
  have : j < B.length := by rw [h.1]; exact hj
  simp [bools, List.getD, this]

set_option maxRecDepth 100000 in
theorem Cel.free {w wr : World} {g n cap : Nat} {B : List Bool} (h : Cel w g n cap B wr) (j : Nat) : wr.frozen? ⟨g, j, none⟩ = false := h.2.2.1.frozenAt j

set_option maxRecDepth 100000 in
theorem Cel.set {w wr : World} {g n cap : Nat} {B : List Bool} (h : Cel w g n cap B wr) (j : Nat) (x : Bool) : Cel w g n cap (B.set j x) (wr.setCell ⟨g, j, none⟩ (.bool x)) := by
  refine ⟨by rw [List.length_set]; exact h.1, h.2.1, ?_, h.2.2.2.setCell (p := ⟨g, j, none⟩) h.2.1 _⟩
  have := (h.2.2.1.stored j (.bool x)).1
  simpa [bools, List.map_set] using this

set_option maxRecDepth 100000 in
theorem Cel.new {w wr : World} {g n cap : Nat} {B : List Bool} (h : Cel w g n cap B wr) (o : Obj) : Cel w g n cap B (wr.alloc o) := ⟨h.1, h.2.1, h.2.2.1.alloc o, h.2.2.2.alloc h.2.2.2.size o⟩

set_option maxRecDepth 100000 in
theorem Cel.draws {w wr : World} {g n cap : Nat} {B : List Bool} (h : Cel w g n cap B wr) : Cel w g n cap B wr.drew := ⟨h.1, h.2.1, h.2.2.1.drew, h.2.2.2.drew⟩

set_option maxRecDepth 100000 in
theorem Cel.ne {w wr : World} {g n cap : Nat} {B : List Bool} (h : Cel w g n cap B wr) {b : Nat} {u : TypeId} {cs : Array Value} (hr : Row wr b u cs) (hu : u ≠ 4) : g ≠ b := by
  rintro rfl
  rcases h.2.2.1.2 with ⟨hv, _⟩ | ⟨g', cap', cur, hv, _, hh, _⟩
  · simp at hv
  · simp only [Value.slice.injEq, Option.some.injEq, Addr.mk.injEq, and_true, true_and] at hv
    obtain ⟨rfl, _⟩ := hv
    have h2 : wr.heap[g]? = some (Obj.cells cs u (0, 0)) := hr
    rw [h2] at hh
    injection hh with hh
    injection hh with _ ht
    exact hu ht

set_option maxRecDepth 100000 in
theorem cel_of {w wr : World} {v : Value} {B : List Bool} (h : BitsAt w B v wr) (hn : 0 < B.length) : ∃ g cap, v = .slice (some ⟨g, 0, none⟩) B.length cap ∧ Cel w g B.length cap B wr := by
  rcases h.1.2 with ⟨_, h0⟩ | ⟨g, cap, cur, hv, hb, _⟩
  · omega
  · refine ⟨g, cap, hv, rfl, hb, ?_, h.2⟩
    have := h.1
    rw [hv] at this
    exact this

set_option maxRecDepth 100000 in
theorem pad_get (M : List Bool) (n j : Nat) : (M ++ List.replicate n false).getD j false = Crc.mbit M j := by
  unfold Crc.mbit
  simp only [List.getD_eq_getElem?_getD]
  by_cases h : j < M.length
  · rw [List.getElem?_append_left h]
  · rw [List.getElem?_append_right (by omega), List.getElem?_eq_none (l := M) (by omega), List.getElem?_replicate]
    by_cases h2 : j - M.length < n
    · rw [if_pos h2]; rfl
    · rw [if_neg h2]

/-- The first i bits are turned. -/
def Turned (M : List Bool) (i : Nat) (B : List Bool) : Prop := B.length = M.length + 32 ∧ ∀ j, j < M.length + 32 → B.getD j false = (Crc.mbit M j ^^ decide (j < i))

set_option maxRecDepth 100000 in
theorem turned_more {M B : List Bool} {i : Nat} (h : Turned M i B) (hi : i < M.length + 32) : Turned M (i + 1) (B.set i (!B.getD i false)) := by
  refine ⟨by rw [List.length_set]; exact h.1, fun j hj => ?_⟩
  have hl := h.1
  by_cases e : i = j
  · subst e
    have : (B.set i (!B.getD i false)).getD i false = !B.getD i false := by
      rw [List.getD_eq_getElem?_getD, List.getElem?_set_self (by omega)]; rfl
    rw [this, h.2 i hj, decide_eq_true (show i < i + 1 by omega), decide_eq_false (show ¬ i < i by omega)]
    cases Crc.mbit M i <;> rfl
  · have : (B.set i (!B.getD i false)).getD j false = B.getD j false := by
      rw [List.getD_eq_getElem?_getD, List.getElem?_set_ne e, List.getD_eq_getElem?_getD]
    rw [this, h.2 j hj]
    congr 1
    rw [decide_eq_decide]
    omega

end Go.Proofs.Ytenlcadndfbnaaa
