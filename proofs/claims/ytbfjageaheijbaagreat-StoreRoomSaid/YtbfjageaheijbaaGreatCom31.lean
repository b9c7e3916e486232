/- The built-in append of a text to a slice of bytes: to the call's own, and where the new slice lies; to one that is full. No program is spoken of. -/
import Derived.Test.YtbfjageaheijbaaGreatCom7
import Derived.Test.YtbfjageaheijbaaGreatCom1
import Derived.Test.YtbfjageaheijbaaGreatCom6
import Derived.Test.YtbfjageaheijbaaGreatCom30
import Derived.Test.YtbfjageaheijbaaGreatCom25
import Derived.OwnWalk
import Derived.WideShapes
import Derived.Lib.AppendStr
import Derived.Lib.BufferRead
import Derived.WalkLawsBesides
import Derived.Lib.SliceRun
import Derived.ChangeAlike
namespace Go.Proofs.YtbfjageaheijbaaGreat
open Go.RowKit

set_option maxRecDepth 100000 in
theorem AppS.byteInfo : (Tryz.prog.info? 5).map (fun i => (i.zero, i.size, i.bytes)) = some (some (.int .u8 0), 1, 1) := by kernel_rfl

set_option maxRecDepth 100000 in
theorem bcells_str (s : ByteArray) : Lib.strCells s = Lib.byteCells s.data.toList := rfl
set_option maxRecDepth 100000 in
theorem bcells_append (a b : List UInt8) : Lib.byteCells a ++ Lib.byteCells b = Lib.byteCells (a ++ b) := by unfold Lib.byteCells; rw [List.map_append]
set_option maxRecDepth 100000 in
theorem bcells_len (a : List UInt8) : (Lib.byteCells a).length = a.length := by unfold Lib.byteCells; rw [List.length_map]

/-- A slice of bytes: nil, or at a block of F. -/
def BytesAt (w : World) (F : Nat → Prop) (v : Value) (l : List UInt8) : Prop :=
  (v = .slice none 0 0 ∧ l = []) ∨ ∃ g o c, v = .slice (some ⟨g, o, none⟩) l.length c ∧ l.length ≤ c ∧ F g ∧ g < w.heap.size ∧ ∀ i u, (Lib.byteCells l)[i]? = some u → w.cell? ⟨g, o + i, none⟩ = some u

set_option maxRecDepth 100000 in
theorem BytesAt.cells {w : World} {F : Nat → Prop} {v : Value} {l : List UInt8} (h : BytesAt w F v l) : Cells w F v (Lib.byteCells l) := by
  rcases h with ⟨rfl, rfl⟩ | ⟨g, o, c, rfl, hc, hF, hg, hat⟩
  · exact Cells.none _ _
  · exact ⟨some ⟨g, o, none⟩, c, by rw [bcells_len], by rw [bcells_len]; exact hc, fun _ => ⟨g, o, rfl, hF, hg, hat⟩⟩

set_option maxRecDepth 100000 in
theorem BytesAt.kept {w w' : World} {F G : Nat → Prop} {v : Value} {l : List UInt8} (h : BytesAt w F v l) (k : Kept G w w') (hd : ∀ i, F i → ¬ G i) : BytesAt w' F v l := by
  rcases h with h | ⟨g, o, c, rfl, hc, hF, hg, hat⟩
  · exact Or.inl h
  · exact Or.inr ⟨g, o, c, rfl, hc, hF, Nat.lt_of_lt_of_le hg k.size, fun i u hu => (k.cell (p := ⟨g, o + i, none⟩) hg (hd g hF)).trans (hat i u hu)⟩

set_option maxRecDepth 100000 in
theorem BytesAt.below {w w' : World} {F : Nat → Prop} {v : Value} {l : List UInt8} (h : BytesAt w F v l) (k : Below w.heap.size w w') : BytesAt w' F v l := h.kept (Kept.ofBelow k (fun _ => False)) (fun _ _ h => h)

set_option maxRecDepth 100000 in
theorem BytesAt.same {w w' : World} {F Z : Nat → Prop} {v : Value} {l : List UInt8} (h : BytesAt w F v l) (k : ∀ i, Z i → w'.heap[i]? = w.heap[i]?) (hs : w.heap.size ≤ w'.heap.size) (hZ : ∀ i, F i → Z i) : BytesAt w' F v l := by
  rcases h with h | ⟨g, o, c, rfl, hc, hF, hg, hat⟩
  · exact Or.inl h
  · exact Or.inr ⟨g, o, c, rfl, hc, hF, Nat.lt_of_lt_of_le hg hs, fun i u hu => (World.cell?_of_block (w := w) (k g (hZ g hF))).trans (hat i u hu)⟩

set_option maxRecDepth 100000 in
theorem BytesAt.eq {w : World} {F : Nat → Prop} {v : Value} {l m : List UInt8} (h : BytesAt w F v l) (e : l = m) : BytesAt w F v m := e ▸ h

set_option maxRecDepth 100000 in
theorem BytesAt.form {w : World} {F : Nat → Prop} {v : Value} {l : List UInt8} (h : BytesAt w F v l) : ∃ A c, v = .slice A l.length c := by
  rcases h with ⟨rfl, rfl⟩ | ⟨g, o, c, rfl, -⟩
  · exact ⟨none, 0, rfl⟩
  · exact ⟨_, _, rfl⟩

set_option maxRecDepth 100000 in
theorem BytesAt.mono {w : World} {F G : Nat → Prop} {v : Value} {l : List UInt8} (h : BytesAt w F v l) (hF : ∀ i, F i → G i) : BytesAt w G v l := by
  rcases h with h | ⟨g, o, c, rfl, hc, hg, r⟩
  · exact Or.inl h
  · exact Or.inr ⟨g, o, c, rfl, hc, hF g hg, r⟩

set_option maxRecDepth 100000 in
theorem BytesAt.ofOwn {w : World} {base n : Nat} {v : Value} {l : List UInt8} (h : w.ownsRow base 5 1 v n (Lib.byteCells l)) : BytesAt w (fun i => v.ownBlock = some i) v l := by
  have hn : l.length = n := by have := h.1; rw [bcells_len, Nat.mul_one] at this; exact this
  subst hn
  rcases h.2 with ⟨hv, h0⟩ | ⟨g, cap, cur, hv, hb, hg, hc, hm, hs, ht⟩
  · exact Or.inl ⟨hv, List.eq_nil_of_length_eq_zero h0⟩
  · refine Or.inr ⟨g, 0, cap, hv, hc, by rw [hv]; rfl, lt_of_block hg, fun i u hu => ?_⟩
    rw [cell_of_row w g _ cur 5 (0, 0) hg, Nat.zero_add]
    rw [← ht, List.getElem?_take] at hu
    split at hu
    · rw [Array.getElem?_toList] at hu; exact hu
    · cases hu

section
variable {w : World}

set_option maxRecDepth 100000 in
theorem run_string_own (ty : TypeId) {base n : Nat} {v : Value} {l : List UInt8} (hown : w.ownsRow base 5 1 v n (Lib.byteCells l)) (s : ByteArray) (hn : n + s.size ≤ 1000000000) (hb : base ≤ w.heap.size) :
    ∃ v' w', (Builtin.append_ #[99, 9] ty #[v, .string s]).run Tryz.prog w = .ok v' w' ∧ w'.ownsRow base 5 1 v' (n + s.size) (Lib.byteCells (l ++ s.data.toList)) ∧ w.grownBy w' v.ownBlock ∧ (∀ g, v'.ownBlock = some g → v.ownBlock = some g ∨ w.heap.size ≤ g) := by
  obtain ⟨i0, hi, hz0, hz1, hz2⟩ := info_parts AppS.byteInfo
  obtain ⟨v', w', h1, h2, h3, -⟩ := Lib.run_append_own_string w base 99 9 ty 5 i0 Tryz.underlying99 Tryz.underlying9 hi hz0 hz1 hz2 v n (Lib.byteCells l) hown s (by unfold maxLen; omega) (by omega) hb
  refine ⟨v', w', h1, by rw [bcells_str, bcells_append] at h2; exact h2, h3, ?_⟩
  have hxl : (Lib.byteCells l).length = n := by simpa using hown.1
  rcases hown.2 with ⟨rfl, rfl⟩ | ⟨g, cap, cur, rfl, hbg, hg, hnc, hcm, hcs, htake⟩
  · have hx : Lib.byteCells l = [] := List.eq_nil_of_length_eq_zero hxl
    rw [hx] at hown
    obtain ⟨v2, w2, k1, k2, -, -⟩ := Lib.run_append_own_string w w.heap.size 99 9 ty 5 i0 Tryz.underlying99 Tryz.underlying9 hi hz0 hz1 hz2 (.slice none 0 0) 0 [] (World.ownsRow_nil w w.heap.size 5 1) s (by unfold maxLen; omega) (by omega) (Nat.le_refl _)
    rw [k1] at h1
    injection h1 with e1 e2
    subst e1
    intro g hg
    exact Or.inr (k2.lt g hg).1
  · intro g' hg'
    by_cases hroom : n + s.size ≤ cap
    · have hr := Lib.run_append_room_string (P := Tryz.prog) w 99 9 ty 5 i0 Tryz.underlying99 Tryz.underlying9 hi hz1 g n cap cur hg s hroom (by omega)
      rw [hr] at h1
      injection h1 with e1 e2
      rw [← e1] at hg'
      exact Or.inl hg'
    · have holds : ∀ j u, (Lib.byteCells l)[j]? = some u → w.cell? ((⟨g, 0, none⟩ : Addr).add j) = some u := hown.cells (g := g) rfl
      have hr := Lib.run_append_grow_string (P := Tryz.prog) w 99 9 ty 5 i0 (.int .u8 0) Tryz.underlying99 Tryz.underlying9 hi hz0 ⟨g, 0, none⟩ n cap (Lib.byteCells l) (by rw [hz1]; simpa using hxl) holds s (by omega) (by omega) (by rw [hz2]; exact growslice_fits (by omega) (by omega))
      rw [hr] at h1
      injection h1 with e1 e2
      rw [← e1] at hg'
      right
      have : w.heap.size = g' := by simpa [Value.ownBlock] using hg'
      omega

set_option maxRecDepth 100000 in
/-- To a slice that is full, whose cells lie wherever. -/
theorem run_string_full (ty : TypeId) {F : Nat → Prop} {A : Option Addr} {n : Nat} {l : List UInt8} (hc : Cells w F (.slice A n n) (Lib.byteCells l)) (s : ByteArray) (h0 : 0 < s.size ∨ A = none) (hn : n + s.size ≤ 1000000000) :
    ∃ v' w', (Builtin.append_ #[99, 9] ty #[.slice A n n, .string s]).run Tryz.prog w = .ok v' w' ∧ BytesAt w' (fun i => w.heap.size ≤ i ∧ i < w'.heap.size) v' (l ++ s.data.toList) ∧ Below w.heap.size w w' := by
  obtain ⟨i0, hi, hz0, hz1, hz2⟩ := info_parts AppS.byteInfo
  obtain ⟨A', cap, e, hcap, hat⟩ := hc
  injection e with e1 e2 e3
  subst e1
  have hlen : (Lib.byteCells l).length = n := e2.symm
  cases A with
  | none =>
    have hn0 : n = 0 := by
      rcases Nat.eq_zero_or_pos n with h | h
      · exact h
      · obtain ⟨b, o, e, -⟩ := hat (by omega)
        cases e
    subst hn0
    have hx : Lib.byteCells l = [] := List.eq_nil_of_length_eq_zero hlen
    have hl : l = [] := by
      have := bcells_len l
      rw [hx] at this
      exact List.eq_nil_of_length_eq_zero this.symm
    subst hl
    obtain ⟨v2, w2, k1, k2, k3, -⟩ := Lib.run_append_own_string w w.heap.size 99 9 ty 5 i0 Tryz.underlying99 Tryz.underlying9 hi hz0 hz1 hz2 (.slice none 0 0) 0 [] (World.ownsRow_nil w w.heap.size 5 1) s (by unfold maxLen; omega) (by omega) (Nat.le_refl _)
    refine ⟨v2, w2, k1, ?_, ⟨k3.os, k3.tape, k3.output, k3.size, fun i hi => k3.block i hi (by simp [Value.ownBlock])⟩⟩
    rw [List.nil_append, bcells_str] at k2
    exact (BytesAt.ofOwn k2).mono (fun b hb => ⟨(k2.lt b hb).1, (k2.lt b hb).2⟩)
  | some ad =>
    have hs0 : 0 < s.size := by
      rcases h0 with h0 | h0
      · exact h0
      · cases h0
    have holds : ∀ j u, (Lib.byteCells l)[j]? = some u → w.cell? (ad.add j) = some u := by
      intro j u hu
      have hp : 0 < (Lib.byteCells l).length := by
        rcases Nat.eq_zero_or_pos (Lib.byteCells l).length with h | h
        · rw [List.eq_nil_of_length_eq_zero h] at hu; cases hu
        · exact h
      obtain ⟨b, o, e, -, -, hcell⟩ := hat hp
      injection e with e
      subst e
      rw [Go.WideShapes.add_plain]
      exact hcell j u hu
    have hr := Lib.run_append_grow_string (P := Tryz.prog) w 99 9 ty 5 i0 (.int .u8 0) Tryz.underlying99 Tryz.underlying9 hi hz0 ad n n (Lib.byteCells l) (by rw [hz1]; simpa using hlen) holds s (by omega) (by omega) (by rw [hz2]; exact growslice_fits (by omega) (by omega))
    have hge := grownCap_ge w (n + s.size) n 5
    have hls : (Lib.byteCells (l ++ s.data.toList)).length = n + s.size := by rw [← bcells_append, List.length_append, hlen, bcells_len, Lib.size_eq]
    refine ⟨_, _, hr, Or.inr ⟨w.heap.size, 0, grownCap w (n + s.size) n 5, by rw [← bcells_len, hls], by rw [← bcells_len, hls]; exact hge, ⟨Nat.le_refl _, by simp⟩, by simp, fun j u hu => ?_⟩, ⟨rfl, rfl, rfl, by simp, fun k hk => Below.heap_alloc w.drew _ k hk⟩⟩
    rw [cell_of_row _ w.heap.size (0 + j) _ 5 (0, 0) (heap_alloc_new w.drew _), Nat.zero_add, bcells_str]
    have hj : j < (Lib.byteCells (l ++ s.data.toList)).length := by
      by_cases h : j < (Lib.byteCells (l ++ s.data.toList)).length
      · exact h
      · rw [List.getElem?_eq_none (by omega)] at hu; cases hu
    rw [Array.getElem?_append_left (by
      rw [Array.size_append, List.size_toArray, List.size_toArray, ← List.length_append, bcells_append]; exact hj)]
    rw [← hu, ← bcells_append, ← Array.getElem?_toList]
    simp

set_option maxRecDepth 100000 in
theorem wp_string_own {ops : Array Oper} {rest : List Oper} {o : Oper} {a : Act} {Q : Exit → Act → World → Prop} (hgd : o.guard = none) (sl x : Operand)
    (ho : o.op = .call { callee := .builtin .append, args := #[sl, x], argTypes := #[99, 9] }) {base n : Nat} {v : Value} {l : List UInt8} {s : ByteArray} (hs : a.eval sl = v) (hx : a.eval x = .string s)
    (hown : w.ownsRow base 5 1 v n (Lib.byteCells l)) (hn : n + s.size ≤ 1000000000) (hb : base ≤ w.heap.size)
    (h : ∀ v' w', w'.ownsRow base 5 1 v' (n + s.size) (Lib.byteCells (l ++ s.data.toList)) → w.grownBy w' v.ownBlock → (∀ g, v'.ownBlock = some g → v.ownBlock = some g ∨ w.heap.size ≤ g) → wpList Tryz.prog ops Q rest (a.put o.dst v') w') : wpList Tryz.prog ops Q (o :: rest) a w :=
  wpList_plain hgd fun _ hK => by
    obtain ⟨v', w', r1, r2, r3, r4⟩ := run_string_own o.type hown s hn hb
    unfold Oper.wp execOp
    simp only [ho, resolve, invoke, builtin, Sem.run_bind, Sem.run_pure, Result.andThen_ok, List.map_toArray, List.map_cons, List.map_nil, hs, hx, r1]
    exact hK _ _ (h v' w' r2 r3 r4)

set_option maxRecDepth 100000 in
theorem wp_string_full {ops : Array Oper} {rest : List Oper} {o : Oper} {a : Act} {Q : Exit → Act → World → Prop} (hgd : o.guard = none) (sl x : Operand)
    (ho : o.op = .call { callee := .builtin .append, args := #[sl, x], argTypes := #[99, 9] }) {F : Nat → Prop} {A : Option Addr} {n : Nat} {l : List UInt8} {s : ByteArray} (hs : a.eval sl = .slice A n n) (hx : a.eval x = .string s)
    (hc : Cells w F (.slice A n n) (Lib.byteCells l)) (h0 : 0 < s.size ∨ A = none) (hn : n + s.size ≤ 1000000000)
    (h : ∀ v' w', BytesAt w' (fun i => w.heap.size ≤ i ∧ i < w'.heap.size) v' (l ++ s.data.toList) → Below w.heap.size w w' → wpList Tryz.prog ops Q rest (a.put o.dst v') w') : wpList Tryz.prog ops Q (o :: rest) a w :=
  wpList_plain hgd fun _ hK => by
    obtain ⟨v', w', r1, r2, r3⟩ := run_string_full o.type hc s h0 hn
    unfold Oper.wp execOp
    simp only [ho, resolve, invoke, builtin, Sem.run_bind, Sem.run_pure, Result.andThen_ok, List.map_toArray, List.map_cons, List.map_nil, hs, hx, r1]
    exact hK _ _ (h v' w' r2 r3)

set_option maxRecDepth 100000 in
/-- The call's own bytes, and behind them those of a slice. -/
theorem run_bytes_own (ty : TypeId) {base : Nat} {F : Nat → Prop} {v xv : Value} {us vs : List UInt8} (hown : w.ownsRow base 5 1 v us.length (Lib.byteCells us)) (hb : base ≤ w.heap.size) (hx : BytesAt w F xv vs) (hl : us.length + vs.length ≤ 1000000000) :
    ∃ v' w', (Builtin.append_ #[99, 99] ty #[v, xv]).run Tryz.prog w = .ok v' w' ∧ w'.ownsRow base 5 1 v' (us ++ vs).length (Lib.byteCells (us ++ vs)) ∧ w.grownBy w' v.ownBlock := by
  obtain ⟨i0, hi, hz0, hz1, hz2⟩ := info_parts AppS.byteInfo
  have hone : ∀ u ∈ Lib.byteCells vs, u.oneCell' = true := by
    intro u hu
    unfold Lib.byteCells at hu
    obtain ⟨t, -, rfl⟩ := List.mem_map.1 hu
    rfl
  rcases hx with ⟨rfl, rfl⟩ | ⟨g, o, c, rfl, hc, hF, hg, hat⟩
  · refine ⟨v, w, ?_, by rw [List.append_nil]; exact hown, rfl, rfl, rfl, Nat.le_refl _, fun _ _ _ => rfl⟩
    rcases hown.2 with ⟨rfl, h0⟩ | ⟨g, cap, cur, rfl, _, _, hnc, _⟩
    · simp [Builtin.append_, run_underlying Tryz.underlying99, sizeOf, typeInfo, hi, Builtin.lenOf, Builtin.firstCells]
    · simp [Builtin.append_, run_underlying Tryz.underlying99, sizeOf, typeInfo, hi, Builtin.lenOf, Builtin.firstCells, hnc, storeCells]
  · obtain ⟨v', w', h1, h2, h3, -⟩ := run_append_own w base 99 ty 5 i0 (.int .u8 0) 1 1 Tryz.underlying99 hi hz0 hz1 hz2 rfl (by decide) v us.length (Lib.byteCells us) hown ⟨g, o, none⟩ vs.length c (Lib.byteCells vs) (by rw [bcells_len, Nat.mul_one]) (fun j u hu => by rw [Go.WideShapes.add_plain]; exact hat j u hu) hone (by unfold maxLen; omega) (by omega) hb
    exact ⟨v', w', h1, by rw [List.length_append, ← bcells_append]; exact h2, h3⟩

set_option maxRecDepth 100000 in
theorem wp_bytes_own {ops : Array Oper} {rest : List Oper} {o : Oper} {a : Act} {Q : Exit → Act → World → Prop} (hgd : o.guard = none) (sl x : Operand)
    (ho : o.op = .call { callee := .builtin .append, args := #[sl, x], argTypes := #[99, 99] }) {base : Nat} {F : Nat → Prop} {v xv : Value} {us vs : List UInt8} (hs : a.eval sl = v) (hx : a.eval x = xv)
    (hown : w.ownsRow base 5 1 v us.length (Lib.byteCells us)) (hb : base ≤ w.heap.size) (hc : BytesAt w F xv vs) (hl : us.length + vs.length ≤ 1000000000)
    (h : ∀ v' w', w'.ownsRow base 5 1 v' (us ++ vs).length (Lib.byteCells (us ++ vs)) → w.grownBy w' v.ownBlock → wpList Tryz.prog ops Q rest (a.put o.dst v') w') : wpList Tryz.prog ops Q (o :: rest) a w :=
  wpList_plain hgd fun _ hK => by
    obtain ⟨v', w', r1, r2, r3⟩ := run_bytes_own o.type hown hb hc hl
    unfold Oper.wp execOp
    simp only [ho, resolve, invoke, builtin, Sem.run_bind, Sem.run_pure, Result.andThen_ok, List.map_toArray, List.map_cons, List.map_nil, hs, hx, r1]
    exact hK _ _ (h v' w' r2 r3)

set_option maxRecDepth 100000 in
/-- string(b) -/
theorem conv_bytes {F : Nat → Prop} {v : Value} {l : List UInt8} (h : BytesAt w F v l) : (convert 99 9 v).run Tryz.prog w = .ok (.string ⟨l.toArray⟩) w := by
  rcases h with ⟨rfl, rfl⟩ | ⟨g, o, c, rfl, hc, hF, hg, hat⟩
  · exact Lib.run_convert_nil_bytes (P := Tryz.prog) w 99 9 5 0 Tryz.underlying99 Tryz.underlying5 Tryz.underlying9
  · refine run_convert_bytes_back (P := Tryz.prog) w 99 9 5 ⟨g, o, none⟩ c l Tryz.underlying99 Tryz.underlying5 Tryz.underlying9 (fun j hj => ?_)
    rw [Go.WideShapes.add_plain]
    exact hat j _ (by simp [Lib.byteCells, hj])
end
end Go.Proofs.YtbfjageaheijbaaGreat
/- The landed journal: the bytes of the last sector, a copy. -/
set_option linter.unusedSimpArgs false
set_option linter.unusedVariables false
namespace Go.Proofs.YtbfjageaheijbaaGreat
open Go.RowKit Dsk Jnl

/-- Of bytes those in the sector that is used last, where it is not full. -/
def tailB (l : List UInt8) : List UInt8 := l.drop (64 * (l.length / 64))

def Fresh (w w' : World) (k : Nat) : Prop := w.heap.size ≤ k ∧ k < w'.heap.size

section
variable {w : World} {F : Nat → Prop} {v : Value} {l : List UInt8}

set_option maxRecDepth 100000 in
theorem clone_bytes (h : BytesAt w F v l) (hl : l.length ≤ 1000000) :
    Calls Tryz.prog 80 #[v] w fun e w' => ∃ v', e = .returned v' ∧ BytesAt w' (Fresh w w') v' l ∧ Below w.heap.size w w' := by
  have H := Lib.hid h
  rcases h with ⟨rfl, rfl⟩ | ⟨g, o, c, rfl, hc, hF, hg, hat⟩
  · clear H
    have hnil := Lib.run_eql_slice_nil (P := Tryz.prog) w 99 5 none 0 0 0 0 Tryz.underlying99
    go_enter Tryz.func80, Tryz.ntmps80
    go_wp2_with fail
    go_ret
    exact ⟨.slice none 0 0, rfl, Or.inl ⟨rfl, rfl⟩, Below.refl _ _⟩
  · have hnil := Lib.run_eql_slice_nil (P := Tryz.prog) w 99 5 (some ⟨g, o, none⟩) l.length c 0 0 Tryz.underlying99
    have Hl := Lib.hid hl
    have hown : (w.alloc (.cells #[] 5)).ownsRow w.heap.size 5 1 (.slice (some ⟨w.heap.size, 0, none⟩) 0 0) 0 [] :=
      World.ownsRow_made w #[] 0 (Nat.le_refl _) (by decide) rfl
    clear hat hl hc hF
    go_enter Tryz.func80, Tryz.ntmps80
    go_wp2_with (at_builtin; refine wp_bytes_own (us := []) (vs := l) (base := w.heap.size) (F := F) rfl _ _ rfl (by rfl) (by rfl) hown (by simp) (H.out.below ((Below.refl _ _).alloc (Nat.le_refl _) _)) (by have := Hl.out; simp; omega) ?_
                 intro v2 w2 hown2 hg2)
    go_ret
    refine ⟨v2, rfl, (BytesAt.ofOwn hown2).mono (fun i hi => ⟨(hown2.lt i hi).1, (hown2.lt i hi).2⟩), ((Below.refl _ _).alloc (Nat.le_refl _) _).grown hg2 (by simp) (fun k e => Nat.le_of_eq (by simpa [Value.ownBlock] using e))⟩

set_option maxRecDepth 100000 in
theorem tail_of (h : BytesAt w F v l) (hl : l.length ≤ 1000000) :
    Calls Tryz.prog 53 #[v] w fun e w' => ∃ v', e = .returned v' ∧ BytesAt w' (Fresh w w') v' (tailB l) ∧ Below w.heap.size w w' := by
  have H := Lib.hid h
  rcases h with ⟨rfl, rfl⟩ | ⟨g, o, c, rfl, hc, hF, hg, hat⟩
  · have HC := Lib.hid (clone_bytes (w := w) (F := F) (v := .slice none 0 0) (l := tailB []) (Or.inl ⟨rfl, rfl⟩) (by decide))
    clear H
    go_enter Tryz.func53, Tryz.ntmps53
    go_wp2_with fail
    refine HC.out.mono ?_
    rintro e w' ⟨v', rfl, h1, h2⟩
    have h1 := Lib.hid h1
    have h2 := Lib.hid h2
    go_wp2_with fail
    go_ret
    exact ⟨v', rfl, h1.out, h2.out⟩
  · obtain ⟨K, hK⟩ : ∃ K, K = 64 * (l.length / 64) := ⟨_, rfl⟩
    have hmod : (l.length : Int).tmod 64 = ((l.length - K : Nat) : Int) := by rw [Int.tmod_eq_emod_of_nonneg (by omega)]; omega
    have hKl : K ≤ l.length := by omega
    have hsub : (l.length : Int) - ((l.length - K : Nat) : Int) = (K : Int) := by omega
    have htl : (tailB l).length = l.length - K := by unfold tailB; rw [List.length_drop, hK]
    have hcells : ∀ o', o' = o + K → ∀ i u, (Lib.byteCells (tailB l))[i]? = some u → w.cell? ⟨g, o' + i, none⟩ = some u := by
      intro o' ho i u hu
      have : (Lib.byteCells l)[K + i]? = some u := by
        unfold tailB Lib.byteCells at hu
        rw [← hK, List.map_drop, List.getElem?_drop] at hu
        exact hu
      rw [ho, Nat.add_assoc]
      exact hat _ _ this
    have hempty : K = l.length → tailB l = [] := fun e => List.eq_nil_of_length_eq_zero (by omega)
    by_cases hk : K < c
    · have HC := Lib.hid (clone_bytes (w := w) (F := F) (v := .slice (some ⟨g, o + K, none⟩) (l.length - K) (c - K)) (l := tailB l) (Or.inr ⟨g, o + K, c - K, by rw [htl], by omega, hF, hg, hcells _ rfl⟩) (by omega))
      have b1 : (K : Int) ≤ (l.length : Int) := by omega
      have b2 : (l.length : Int) ≤ (c : Int) := by omega
      have b3 : (K : Int) < (c : Int) := by omega
      have b4 : ¬ (K = c) := by omega
      have b5 : (l.length : Int) ≤ 1000000 := by omega
      clear hat hc hF hcells hempty htl hK hl H
      go_enter Tryz.func53, Tryz.ntmps53
      go_wp2_with fail
      refine HC.out.mono ?_
      rintro e w' ⟨v', rfl, h1, h2⟩
      have h1 := Lib.hid h1
      have h2 := Lib.hid h2
      go_wp2_with fail
      go_ret
      exact ⟨v', rfl, h1.out, h2.out⟩
    · obtain rfl : c = l.length := by omega
      have hKe : K = l.length := by omega
      have HC := Lib.hid (fun o' => clone_bytes (w := w) (F := F) (v := .slice (some ⟨g, o', none⟩) 0 0) (l := tailB l) (Or.inr ⟨g, o', 0, by rw [htl, hKe, Nat.sub_self], by omega, hF, hg, fun i u hu => by rw [hempty hKe] at hu; cases hu⟩) (by omega))
      have b5 : (l.length : Int) ≤ 1000000 := by omega
      have hmod0 : (l.length : Int).tmod 64 = 0 := by rw [hmod]; omega
      have hk0 : ((l.length - K : Nat) : Int) = 0 := by omega
      clear hat hc hF hcells hempty htl hl H hmod hsub hk hKl
      go_enter Tryz.func53, Tryz.ntmps53
      go_wp2_with fail
      refine (HC.out _).mono ?_
      rintro e w' ⟨v', rfl, h1, h2⟩
      have h1 := Lib.hid h1
      have h2 := Lib.hid h2
      go_wp2_with fail
      go_ret
      exact ⟨v', rfl, h1.out, h2.out⟩
end
end Go.Proofs.YtbfjageaheijbaaGreat
/- The landed journal: the function that writes one sector behind the other. -/
set_option linter.unusedSimpArgs false
set_option linter.unusedVariables false
namespace Go.Proofs.YtbfjageaheijbaaGreat
open Go.RowKit Dsk Jnl

/-- The disk's Write, bound. -/
def bound (dv : Value) : Value := .func (.func 56) #[dv] #[]

set_option maxRecDepth 100000 in
theorem in_order (dv : Value) (at' : Nat) (w : World) :
    Calls Tryz.prog 107 #[bound dv, .int .i64 (at' : Int)] w fun e w' => e = .returned (.func (.func 134) #[] #[.pointer (some ⟨w.heap.size, 0, none⟩), .pointer (some ⟨w.heap.size + 1, 0, none⟩)]) ∧
      w' = (w.alloc (.cells #[bound dv] 112)).alloc (.cells #[.int .i64 (at' : Int)] 3) := by
  unfold bound
  go_enter Tryz.func107, Tryz.ntmps107
  go_wp2_with fail
  go_ret
  exact ⟨rfl, rfl⟩

set_option maxRecDepth 100000 in
set_option maxHeartbeats 1600000 in
theorem put_any {w wr : World} {F Z Fb : Nat → Prop} {dv bv : Value} {d : D} {N c1 c2 at' : Nat} {l : List UInt8} (h : Has w F Z dv d wr) (hf : d.Fine N) (hN : N + 1 ≤ 100000)
    (r1 : Row wr c1 112 #[bound dv]) (r2 : Row wr c2 3 #[.int .i64 (at' : Int)]) (z1 : Z c1) (z2 : Z c2) (hc : w.heap.size ≤ c2) (hb : BytesAt wr Fb bv l) (hl : l.length ≤ 64) (hat : at' ≤ 1000000) :
    Calls Tryz.prog 134 #[bv, .pointer (some ⟨c1, 0, none⟩), .pointer (some ⟨c2, 0, none⟩)] wr fun e w' =>
      e = .returned (.int .i64 (d.write (at' : Int) (text l)).1) ∧ Has w F Z dv (d.write (at' : Int) (text l)).2 w' ∧ Row w' c2 3 #[.int .i64 ((at' + 1 : Nat) : Int)] ∧ ∀ i, Z i → i ≠ c2 → w'.heap[i]? = wr.heap[i]? := by
  have conv := conv_bytes hb
  have HW : Hid (Calls Tryz.prog 56 #[dv, .int .i64 (at' : Int), .string ⟨l.toArray⟩] wr fun e w' => e = .returned (.int .i64 (d.write (at' : Int) (text l)).1) ∧ Has w F Z dv (d.write (at' : Int) (text l)).2 w' ∧ ∀ i, Z i → w'.heap[i]? = wr.heap[i]?) := Lib.hid (by
    refine h.call (Q := fun e => e = .returned (.int .i64 (d.write (at' : Int) (text l)).1)) (fun G hG => ?_)
    exact atl_write hG hf (by omega) (at' : Int) ⟨l.toArray⟩ (by omega) (by omega) (by have := text_size l; unfold text at this; rw [this]; omega))
  have q1 : wr.cell? ⟨c1, 0, none⟩ = some (bound dv) := r1.at 0
  have q2 : wr.cell? ⟨c2, 0, none⟩ = some (.int .i64 (at' : Int)) := r2.at 0
  have R2 := Lib.hid r2
  have hatI : (at' : Int) ≤ 1000000 := by omega
  have Hz2 := Lib.hid z2
  have Hcc := Lib.hid hc
  unfold bound at q1
  clear h hf r1 r2 hb hl hat z1 z2 hc
  generalize d.write (at' : Int) (text l) = D1 at *
  obtain ⟨x, d1⟩ := D1
  simp only at *
  obtain ⟨b, hbd⟩ : ∃ b, b = dv := ⟨_, rfl⟩
  go_enter Tryz.func134, Tryz.ntmps134
  go_wp2_with fail
  refine HW.out.mono ?_
  rintro e w1 ⟨rfl, h1, hz1⟩
  have r3 := row_same R2.out hz1 Hz2.out
  have q3 : w1.cell? ⟨c2, 0, none⟩ = some (.int .i64 (at' : Int)) := r3.at 0
  have f3 := r3.free 0
  have H1 := Lib.hid h1
  have Hz1 := Lib.hid hz1
  have R3 := Lib.hid r3
  clear h1 hz1 r3 conv q1 q2
  go_wp2_with fail
  go_ret
  refine ⟨rfl, H1.out.wroteIn (Y := fun i => i = c2) ((Kept.refl (fun i => i = c2) w1).stored (p := ⟨c2, 0, none⟩) (Or.inl rfl) _) (fun i hi => by subst hi; exact ⟨Hz2.out, Hcc.out⟩), by simpa using R3.out.stored 0 (.int .i64 ((at' : Int) + 1)), fun i hi hne => (Below.heap_setCell w1 ⟨c2, 0, none⟩ _ i hne).trans (Hz1.out i hi)⟩
end Go.Proofs.YtbfjageaheijbaaGreat
/- The landed journal: the bytes that are used of a half. -/
set_option linter.unusedSimpArgs false
set_option linter.unusedVariables false
namespace Go.Proofs.YtbfjageaheijbaaGreat
open Go.RowKit Dsk Jnl

def lenIn : Value → Nat | .slice _ n _ => n | _ => 0

/-- At the head of round k. -/
structure UsedAt (w : World) (F : Nat → Prop) (dv : Value) (d : D) (q half used n : Nat) (v : Value) (k : Nat) (wr : World) : Prop where
  has : Has w F (fun i => i = w.heap.size ∨ v.ownBlock = some i) dv d wr
  box : Row wr w.heap.size 96 #[.int .i64 (q : Int), .int .i64 (half : Int), .int .i64 (used : Int)]
  own : wr.ownsRow (w.heap.size + 1) 5 1 v (64 * k) (Lib.byteCells (halfB (Jnl.now d) (2 + half * hof n) k))
  le : k ≤ hof n
  lt : 64 * k < used + 64

set_option maxRecDepth 100000 in
theorem UsedAt.far {w : World} {F : Nat → Prop} {dv : Value} {d : D} {q half used n : Nat} {v : Value} {k : Nat} {wr : World} (h : UsedAt w F dv d q half used n v k wr) : ∀ i, (i = w.heap.size ∨ v.ownBlock = some i) → w.heap.size ≤ i := fun i hi => by
  rcases hi with hi | hi
  · omega
  · have := (h.own.lt i hi).1; omega

set_option maxRecDepth 100000 in
/-- A sector is read, and its bytes are appended. -/
theorem UsedAt.step {w wr w1 w2 : World} {F : Nat → Prop} {dv : Value} {d : D} {q half used n : Nat} {v v2 : Value} {k : Nat} (h : UsedAt w F dv d q half used n v k wr) (h64 : (Jnl.now d (2 + half * hof n + k)).size = 64) (hu : used ≤ 64 * hof n) (hlt : 64 * k < used)
    (h1 : Has w F (fun i => i = w.heap.size ∨ v.ownBlock = some i) dv d w1) (hz : ∀ i, (i = w.heap.size ∨ v.ownBlock = some i) → w1.heap[i]? = wr.heap[i]?)
    (h2 : w2.ownsRow (w.heap.size + 1) 5 1 v2 (64 * k + (Jnl.now d (2 + half * hof n + k)).size) (Lib.byteCells (halfB (Jnl.now d) (2 + half * hof n) k ++ (Jnl.now d (2 + half * hof n + k)).data.toList)))
    (hg : w1.grownBy w2 v.ownBlock) (hl : ∀ g, v2.ownBlock = some g → v.ownBlock = some g ∨ w1.heap.size ≤ g) : UsedAt w F dv d q half used n v2 (k + 1) w2 where
  has := h1.wroteMore (Z := fun i => i = w.heap.size ∨ v.ownBlock = some i) ((Kept.ofGrown (F := fun i => v.ownBlock = some i) hg (fun i hi => hi)).mono (fun i hi => Or.inr hi)) h.far (fun i hi => by
    rcases hi with hi | hi
    · exact Or.inl (Or.inl hi)
    · rcases hl i hi with hl | hl
      · exact Or.inl (Or.inr hl)
      · exact Or.inr ⟨hl, (h2.lt i hi).2⟩)
  box := by
    refine (row_same h.box hz (Or.inl rfl)).grown hg (fun e => ?_)
    have := (h.own.lt _ e).1
    omega
  own := by rw [h64] at h2; exact h2
  le := by omega
  lt := by omega

set_option maxRecDepth 100000 in
theorem take_half (X : Nat → ByteArray) (base : Nat) {h k u : Nat} (hf : ∀ i, i < h → (X (base + i)).data.toList.length = 64) (hk : k ≤ h) (hu : u ≤ 64 * k) : (halfB X base k).take u = (halfB X base h).take u := by
  have h1 := halfB_at X base k (fun i hi => hf i (by omega))
  have h2 := halfB_at X base h hf
  apply List.ext_getElem?
  intro j
  rw [List.getElem?_take, List.getElem?_take]
  split
  · rw [h1.2 j (by omega), h2.2 j (by omega)]
  · rfl

set_option maxRecDepth 100000 in
set_option maxHeartbeats 1600000 in
theorem used_bytes {w : World} {F : Nat → Prop} {dv : Value} {d : D} {n N : Nat} (h : AtL w F dv d) (hf : d.Fine N) (hN : N ≤ 100000) (hn : d.S.length = n) (h4 : 4 ≤ n) (hm : n ≤ 4096) (hd : d.down = false) (hfull : ∀ k, k < n → (Jnl.now d k).data.toList.length = 64) {q half used : Nat} (hh : half ≤ 1) (hu : used ≤ 64 * hof n) :
    Calls Tryz.prog 51 #[dv, .agg #[.int .i64 (q : Int), .int .i64 (half : Int), .int .i64 (used : Int)]] w fun e w' =>
      ∃ bv, e = .returned (.tuple #[bv, .int .i64 0]) ∧ Has w F (fun i => bv.ownBlock = some i) dv d w' ∧ BytesAt w' (fun i => bv.ownBlock = some i) bv ((halfB (Jnl.now d) (2 + half * hof n) (hof n)).take used) ∧ ∀ i, bv.ownBlock = some i → w.heap.size ≤ i := by
  have hhb := half_base (h := hof n) hh
  have hfit := hof_fits h4
  have hho : hof n ≤ 4096 := by unfold hof; omega
  have hstart : Hid (UsedAt w F dv d q half used n (.slice none 0 0) 0 (w.alloc (.cells #[.int .i64 (q : Int), .int .i64 (half : Int), .int .i64 (used : Int)] 96))) := Lib.hid {
    has := (Has.start (Z := fun _ => False) h (fun _ _ h => h) (fun _ h => h.elim)).more ((Below.refl _ _).alloc (Nat.le_refl _) _) (fun i hi => Or.inr (by
      rcases hi with hi | hi
      · simp; omega
      · cases hi))
    box := Row.made _ _ _
    own := World.ownsRow_nil _ _ _ _
    le := Nat.zero_le _
    lt := by omega }
  have HS := Lib.hid (fun (Z : Nat → Prop) (wr : World) (m : Nat) (hm2 : m ≤ 64 * hof n) (H : Has w F Z dv d wr) => H.look (fun G hG => sector_of hG hn h4 hm hh hm2))
  have HR := Lib.hid (fun (Z : Nat → Prop) (wr : World) (k : Nat) (hk : k < n) (H : Has w F Z dv d wr) => H.read hf hN hn hk hd)
  have H64 : Hid (∀ k, k < n → (Jnl.now d k).size = 64) := Lib.hid (fun k hk => by rw [Lib.size_eq]; exact hfull k hk)
  have HHB := Lib.hid (halfB_at (Jnl.now d) (2 + half * hof n))
  obtain ⟨b, rfl⟩ := atl_addr h
  have Hu := Lib.hid hu
  have Hfit := Lib.hid hfit
  have Hhb := Lib.hid hhb
  have Hho := Lib.hid hho
  have huI : (used : Int) ≤ 262144 := by omega
  clear h hf hd hfull hh hn h4 hm hu hfit hhb hho
  go_enter Tryz.func51, Tryz.ntmps51
  go_wp2_with fail
  go_loopw [6] (fun v wr => ∃ k : Nat, UsedAt w F (.pointer (some ⟨b, 0, none⟩)) d q half used n v k wr) (fun v _ => (used + 64) - lenIn v)
  case atStart => exact ⟨0, hstart.out⟩
  case round =>
    obtain ⟨k, hat⟩ := hrel
    obtain ⟨A, cap, rfl⟩ := own_shape hat.own
    generalize hm : 64 * k = m at *
    have c0 := hat.box.at 0
    have c1 := hat.box.at 1
    have c2 := hat.box.at 2
    have Hm := Lib.hid hm
    by_cases hlt : m < used
    · have hle := hat.le
      have hu := Hu.out
      have hk1 : k + 1 ≤ hof n := by omega
      obtain ⟨t, ht⟩ : ∃ t, t = 2 + half * hof n + k := ⟨_, rfl⟩
      have htn : t < n := by have := Hfit.out; have := Hhb.out; omega
      have hsec := HS.out _ wr m (by omega) hat.has
      have e1 : 2 + half * hof n + m / 64 = t := by rw [ht, ← hm]; omega
      rw [e1] at hsec
      have hrd := HR.out _ wr t htn hat.has
      have h64 := H64.out t htn
      have hb : decide ((m : Int) < (used : Int)) = true := decide_eq_true (by omega)
      have hmI : (m : Int) ≤ 262144 := by have := Hho.out; omega
      have hown := hat.own
      have hbox := hat.box.inHeap
      rw [hm] at hown
      have Hown := Lib.hid hown
      have Hbox := Lib.hid hbox
      have Hsec := Lib.hid hsec
      have Hrd := Lib.hid hrd
      have H64t := Lib.hid h64
      have Hat := Lib.hid hat
      have Hlt := Lib.hid hlt
      have Ht := Lib.hid ht
      have hmn : m ≤ 262144 := by omega
      have Hmn := Lib.hid hmn
      clear hat hm hlt hle hu hk1 ht htn hsec hrd h64 e1 hmn hown hbox
      generalize hX : Jnl.now d t = X at *
      have HX := Lib.hid hX
      clear hX
      go_wp2_with (first
        | (go_at_call 78; with_reducible refine Hsec.out.mono ?_; rintro e w' ⟨rfl, rfl⟩)
        | (go_at_call 76; with_reducible refine Hrd.out.mono ?_; rintro e w1 ⟨rfl, h1, hz1⟩
           have own1 := own_same Hown.out (fun i hi => hz1 i (Or.inr hi))
           have hs1 : w.heap.size + 1 ≤ w1.heap.size := h1.zlt _ (Or.inl rfl)
           have h1 := Lib.hid h1
           have hz1 := Lib.hid hz1)
        | (at_builtin; refine wp_string_own (base := w.heap.size + 1) (n := m) (l := halfB (Jnl.now d) (2 + half * hof n) k) (s := X) rfl _ _ rfl (by rfl) (by rfl) own1 (by have := Hmn.out; have := H64t.out; omega) hs1 ?_
           intro v2 w2 h2 hg2 hl2))
      go_roundw
      case rel =>
        refine ⟨k + 1, UsedAt.step (v := .slice A m cap) (w1 := w1) Hat.out (by rw [← Ht.out, HX.out]; exact H64t.out) Hu.out (by rw [Hm.out]; exact Hlt.out) h1.out hz1.out (by rw [← Ht.out, HX.out, Hm.out]; exact h2) hg2 hl2⟩
      case measure => obtain ⟨A2, cap2, rfl⟩ := own_shape h2; show used + 64 - (m + X.size) < used + 64 - m; have := H64t.out; have := Hlt.out; omega
    · have hb : decide ((m : Int) < (used : Int)) = false := decide_eq_false (by omega)
      have hown := hat.own
      rw [hm] at hown
      have hle := hat.le
      have hhl := HHB.out k (fun i hi => by rw [← Lib.size_eq]; exact H64.out _ (by have := Hfit.out; have := Hhb.out; omega))
      have hlk : m < used + 64 := by rw [← hm]; exact hat.lt
      have htk : (halfB (Jnl.now d) (2 + half * hof n) k).take used = (halfB (Jnl.now d) (2 + half * hof n) (hof n)).take used := take_half _ _ (fun i hi => by rw [← Lib.size_eq]; exact H64.out _ (by have := Hfit.out; have := Hhb.out; omega)) hle (by omega)
      have hus : used ≤ m := by omega
      have Hat := Lib.hid hat
      rcases hown.2 with ⟨hv, h0⟩ | ⟨g, cap', cur, hv, hbg, hg, hnc, hcm, hcs, hct⟩
      · injection hv with e1 e2 e3
        subst e1 e2 e3
        have hu0 : used = 0 := by omega
        have fin : Hid (Has w F (fun i => (Value.slice none 0 0).ownBlock = some i) (.pointer (some ⟨b, 0, none⟩)) d wr ∧ BytesAt wr (fun i => (Value.slice none 0 0).ownBlock = some i) (.slice none 0 0) ((halfB (Jnl.now d) (2 + half * hof n) (hof n)).take used) ∧ ∀ i, (Value.slice none 0 0).ownBlock = some i → w.heap.size ≤ i) := Lib.hid
          ⟨hat.has.less (fun i hi => by cases hi), Or.inl ⟨rfl, by rw [hu0, List.take_zero]⟩, fun i hi => by cases hi⟩
        subst hu0
        clear hat hown hle hhl hlk htk hlt hus
        go_wp2_with fail
        go_ret2
        exact ⟨_, rfl, fin.out⟩
      · injection hv with e1 e2 e3
        subst e1 e3
        have hcell := (BytesAt.ofOwn hown).cells
        have fin : Hid (Has w F (fun i => (Value.slice (some ⟨g, 0, none⟩) used cap).ownBlock = some i) (.pointer (some ⟨b, 0, none⟩)) d wr ∧ BytesAt wr (fun i => (Value.slice (some ⟨g, 0, none⟩) used cap).ownBlock = some i) (.slice (some ⟨g, 0, none⟩) used cap) ((halfB (Jnl.now d) (2 + half * hof n) (hof n)).take used) ∧ ∀ i, (Value.slice (some ⟨g, 0, none⟩) used cap).ownBlock = some i → w.heap.size ≤ i) := Lib.hid (by
          have hlen : ((halfB (Jnl.now d) (2 + half * hof n) k).take used).length = used := by rw [List.length_take, hhl.1]; omega
          refine ⟨hat.has.less (fun i hi => Or.inr hi), ?_, fun i hi => by have := (hown.lt i hi).1; omega⟩
          rw [← htk]
          refine Or.inr ⟨g, 0, cap, by rw [hlen], by rw [hlen]; omega, rfl, lt_of_block hg, fun i u hu => ?_⟩
          have hu2 : (Lib.byteCells (halfB (Jnl.now d) (2 + half * hof n) k))[i]? = some u := by
            unfold Lib.byteCells at hu ⊢
            rw [List.map_take, List.getElem?_take] at hu
            split at hu
            · exact hu
            · cases hu
          have := hown.cells (g := g) rfl i u hu2
          rw [Go.WideShapes.add_plain] at this
          exact this)
        have b1 : (used : Int) ≤ (m : Int) := by omega
        have b2 : (m : Int) ≤ (cap : Int) := by omega
        have b3 : (used : Int) ≤ (cap : Int) := by omega
        clear hat hown hle hhl hlk htk hlt hus hcell hct hcs hg hbg
        go_wp2_with fail
        go_ret2
        exact ⟨_, rfl, fin.out⟩
end Go.Proofs.YtbfjageaheijbaaGreat
