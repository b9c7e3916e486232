/- A call's own slice of elements of whatever cells (RowsOwn): begun, one element more, kept. -/
import Derived.Test.YtnpnjophlajfkaaRws
import Derived.Test.YtnpnjophlajfkaaNewIn
namespace Go.Proofs.Ytnpnjophlajfkaa
open Go.RowKit

section
variable {α : Type} {t k : Nat} {f : α → List Value} {w wr w1 w2 : World} {out : List α} {v v' : Value}

set_option maxRecDepth 100000 in
theorem row_below {base t size n : Nat} {v : Value} {xs : List Value} (h : w.ownsRow base t size v n xs) (k : Below w.heap.size w w1) : w1.ownsRow base t size v n xs :=
  h.kept (Kept.ofBelow k (fun i => i = w.heap.size)).grown (Or.inr (fun e => by have := (h.lt _ e).2; omega))

/-- The call's own slice holds these elements. -/
def RowsOwn (t k : Nat) (f : α → List Value) (w : World) (out : List α) (v : Value) (wr : World) : Prop := wr.ownsRow w.heap.size t k v out.length (out.flatMap f) ∧ Below w.heap.size w wr

set_option maxRecDepth 100000 in
theorem RowsOwn.start (t k : Nat) (f : α → List Value) (w : World) : RowsOwn t k f w [] (.slice none 0 0) w := ⟨World.ownsRow_nil _ _ _ _, Below.refl _ _⟩
set_option maxRecDepth 100000 in
theorem RowsOwn.first (h : Below w.heap.size w wr) : RowsOwn t k f w [] (.slice none 0 0) wr := ⟨World.ownsRow_nil _ _ _ _, h⟩
set_option maxRecDepth 100000 in
theorem RowsOwn.below (h : RowsOwn t k f w out v w1) (hb : Below w1.heap.size w1 w2) : RowsOwn t k f w out v w2 := ⟨row_below h.1 hb, h.2.trans (hb.mono h.2.size)⟩
set_option maxRecDepth 100000 in
theorem row_lower {a b t size n : Nat} {v : Value} {xs : List Value} (h : w.ownsRow b t size v n xs) (hab : a ≤ b) : w.ownsRow a t size v n xs := by
  refine ⟨h.1, ?_⟩
  rcases h.2 with h2 | ⟨g, cap, cur, hv, hb, r⟩
  · exact Or.inl h2
  · exact Or.inr ⟨g, cap, cur, hv, Nat.le_trans hab hb, r⟩
set_option maxRecDepth 100000 in
/-- What a call made that came later. -/
theorem RowsOwn.since (h : RowsOwn t k f w1 out v w2) (hb : Below w.heap.size w w1) : RowsOwn t k f w out v w2 := ⟨row_lower h.1 hb.size, hb.trans (h.2.mono hb.size)⟩
set_option maxRecDepth 100000 in
theorem RowsOwn.more {x : α} {o : Obj} (h : RowsOwn t k f w out v wr) (hown : w2.ownsRow w.heap.size t k v' (out.length + 1) (out.flatMap f ++ f x)) (hg : (wr.alloc o).grownBy w2 v.ownBlock) : RowsOwn t k f w (out ++ [x]) v' w2 := by
  obtain ⟨h1, h2⟩ := h
  refine ⟨?_, (h2.alloc h2.size o).grown hg (by have := h2.size; simp; omega) (fun k hk => (h1.lt k hk).1)⟩
  rw [List.length_append, List.flatMap_append]
  simpa using hown
set_option maxRecDepth 100000 in
theorem RowsOwn.rows (h : RowsOwn t k f w out v wr) (hk : ∀ x ∈ out, (f x).length = k) : Rws k f wr (NewIn w wr) v out := Rws.ofOwn h.1 rfl hk (fun _ _ h1 h2 => ⟨h1, h2⟩)
set_option maxRecDepth 100000 in
theorem Rws.block {F : Nat → Prop} {v : Value} {l : List α} (h : Rws k f w F v l) (h0 : 0 < l.length) : ∃ b o cap, v = .slice (some ⟨b, o, Option.none⟩) l.length cap ∧ l.length ≤ cap ∧ F b ∧ b < w.heap.size := by
  obtain ⟨A, c, e, hc, hat⟩ := h
  obtain ⟨b, o, rfl, hb, hl, -⟩ := hat h0
  exact ⟨b, o, c, e, hc, hb, hl⟩
set_option maxRecDepth 100000 in
theorem Rws.parts {F : Nat → Prop} {v : Value} {l : List α} (h : Rws k f w F v l) : ∃ A cap, v = .slice A l.length cap ∧ l.length ≤ cap := by
  obtain ⟨A, c, e, hc, hat⟩ := h
  exact ⟨A, c, e, hc⟩
end

section
variable {α : Type} {t k : Nat} {f : α → List Value} {w wr w2 : World} {l m : List α} {v v' : Value} {o : Obj}
set_option maxRecDepth 100000 in
theorem RowsOwn.front (hg : (wr.alloc o).grownBy w2 (Value.slice (some ⟨wr.heap.size, 0, none⟩) 0 0).ownBlock) (hown : w2.ownsRow wr.heap.size t k v (0 + l.length) ([] ++ l.flatMap f)) : RowsOwn t k f wr l v w2 := by
  refine ⟨by simpa using hown, ((Below.refl wr.heap.size wr).alloc (Nat.le_refl _) o).grown hg (by simp) (fun k hk => ?_)⟩
  have : wr.heap.size = k := by simpa [Value.ownBlock] using hk
  omega
set_option maxRecDepth 100000 in
theorem RowsOwn.rest (h : RowsOwn t k f w l v wr) (hg : wr.grownBy w2 v.ownBlock) (hown : w2.ownsRow w.heap.size t k v' (l.length + m.length) (l.flatMap f ++ m.flatMap f)) : RowsOwn t k f w (l ++ m) v' w2 :=
  ⟨by rw [List.length_append, List.flatMap_append]; exact hown, h.2.grown hg h.2.size (fun k hk => (h.1.lt k hk).1)⟩
end
end Go.Proofs.Ytnpnjophlajfkaa
