/- A disk beside blocks that are not its own (Z), through a call's own worlds. -/
import Derived.Test.YtcgplonnhginiaaCom25
import Derived.Test.YtcgplonnhginiaaCom7
import Derived.Test.YtcgplonnhginiaaCom1
import Derived.Test.YtcgplonnhginiaaCom6
import Derived.OwnWalk
import Derived.WideShapes
import Derived.Lib.AppendStr
import Derived.Lib.BufferRead
import Derived.WalkLawsBesides
import Derived.Lib.SliceRun
namespace Go.Proofs.Ytcgplonnhginiaa
open Go.RowKit Dsk Jnl

/-- Since world w the disk has grown; no block of Z is its own. -/
structure Has (w : World) (F Z : Nat → Prop) (dv : Value) (d : D) (wr : World) : Prop where
  out : ∃ G, AtL wr G dv d ∧ (∀ i, G i → Grow F w wr i) ∧ ∀ i, G i → ¬ Z i
  kept : Kept F w wr
  zlt : ∀ i, Z i → i < wr.heap.size

section
variable {w wr w' : World} {F Z Z' : Nat → Prop} {dv : Value} {d d' : D}

set_option maxRecDepth 100000 in
theorem Has.start (h : AtL w F dv d) (hZ : ∀ i, F i → ¬ Z i) (hz : ∀ i, Z i → i < w.heap.size) : Has w F Z dv d w := ⟨⟨F, h, fun _ hi => Or.inl hi, hZ⟩, Kept.refl _ _, hz⟩

set_option maxRecDepth 100000 in
/-- New blocks may be Z's. -/
theorem Has.more (h : Has w F Z dv d wr) (k : Below wr.heap.size wr w') (hZ : ∀ i, Z' i → Z i ∨ (wr.heap.size ≤ i ∧ i < w'.heap.size)) : Has w F Z' dv d w' := by
  obtain ⟨⟨G, h1, h2, h3⟩, h4, h5⟩ := h
  refine ⟨⟨G, atl_below h1 k, fun i hi => Grow.within (h2 i hi) k.size, fun i hi hz => ?_⟩, h4.trans (Kept.ofBelow k (fun _ => False)) (fun _ _ h => h.elim), fun i hi => ?_⟩
  · rcases hZ i hz with hz | hz
    · exact h3 i hi hz
    · have := h1.2 i hi; omega
  · rcases hZ i hi with hz | hz
    · exact Nat.lt_of_lt_of_le (h5 i hz) k.size
    · exact hz.2

set_option maxRecDepth 100000 in
theorem Has.below (h : Has w F Z dv d wr) (k : Below wr.heap.size wr w') : Has w F Z dv d w' := h.more k (fun _ hi => Or.inl hi)

set_option maxRecDepth 100000 in
theorem Has.less (h : Has w F Z dv d wr) (hZ : ∀ i, Z' i → Z i) : Has w F Z' dv d wr := h.more (Below.refl _ _) (fun i hi => Or.inl (hZ i hi))

set_option maxRecDepth 100000 in
/-- Blocks of Z are written that came to be since w; and new ones. -/
theorem Has.wrote (h : Has w F Z dv d wr) (k : Kept Z wr w') (hZ : ∀ i, Z i → w.heap.size ≤ i) : Has w F Z dv d w' := by
  obtain ⟨⟨G, h1, h2, h3⟩, h4, h5⟩ := h
  exact ⟨⟨G, atl_kept h1 k h3, fun i hi => Grow.within (h2 i hi) k.size, h3⟩, h4.trans k (fun i hi hz => by have := hZ i hz; omega), fun i hi => Nat.lt_of_lt_of_le (h5 i hi) k.size⟩

set_option maxRecDepth 100000 in
/-- Some blocks of Z are written. -/
theorem Has.wroteIn {Y : Nat → Prop} (h : Has w F Z dv d wr) (k : Kept Y wr w') (hY : ∀ i, Y i → Z i ∧ w.heap.size ≤ i) : Has w F Z dv d w' := by
  obtain ⟨⟨G, h1, h2, h3⟩, h4, h5⟩ := h
  exact ⟨⟨G, atl_kept h1 k (fun i hi hy => h3 i hi (hY i hy).1), fun i hi => Grow.within (h2 i hi) k.size, h3⟩, h4.trans k (fun i hi hz => by have := (hY i hz).2; omega), fun i hi => Nat.lt_of_lt_of_le (h5 i hi) k.size⟩

set_option maxRecDepth 100000 in
/-- Blocks of Z are written, and new ones may be Z's. -/
theorem Has.wroteMore (h : Has w F Z dv d wr) (k : Kept Z wr w') (hZ : ∀ i, Z i → w.heap.size ≤ i) (hZ' : ∀ i, Z' i → Z i ∨ (wr.heap.size ≤ i ∧ i < w'.heap.size)) : Has w F Z' dv d w' := by
  obtain ⟨⟨G, h1, h2, h3⟩, h4, h5⟩ := h
  refine ⟨⟨G, atl_kept h1 k h3, fun i hi => Grow.within (h2 i hi) k.size, fun i hi hz => ?_⟩, h4.trans k (fun i hi hz => by have := hZ i hz; omega), fun i hi => ?_⟩
  · rcases hZ' i hz with hz | hz
    · exact h3 i hi hz
    · have := h1.2 i hi; omega
  · rcases hZ' i hi with hz | hz
    · exact Nat.lt_of_lt_of_le (h5 i hz) k.size
    · exact hz.2

set_option maxRecDepth 100000 in
theorem Has.call (h : Has w F Z dv d wr) {fn : Nat} {args : Array Value} {Q : Ending → Prop} (hc : ∀ G, AtL wr G dv d → Calls Try.prog fn args wr fun e w' => Q e ∧ Doing AtL wr G dv d' w') :
    Calls Try.prog fn args wr fun e w' => Q e ∧ Has w F Z dv d' w' ∧ ∀ i, Z i → w'.heap[i]? = wr.heap[i]? := by
  obtain ⟨⟨G, h1, h2, h3⟩, h4, h5⟩ := h
  refine (hc G h1).mono ?_
  rintro e w' ⟨hq, k1, k2⟩
  refine ⟨hq, ⟨⟨Grow G wr w', k1, fun i hi => ?_, fun i hi hz => ?_⟩, h4.trans k2 (fun i hi hg => ?_), fun i hi => Nat.lt_of_lt_of_le (h5 i hi) k2.size⟩, fun i hi => k2.block i (h5 i hi) (fun hg => h3 i hg hi)⟩
  · rcases hi with hi | hi
    · exact Grow.within (h2 i hi) k2.size
    · exact Or.inr ⟨by have := h4.size; omega, hi.2⟩
  · rcases hi with hi | hi
    · exact h3 i hi hz
    · have := h5 i hz; omega
  · rcases h2 i hg with hg | hg
    · exact hg
    · omega

set_option maxRecDepth 100000 in
/-- What only looks at it. -/
theorem Has.look (h : Has w F Z dv d wr) {fn : Nat} {args : Array Value} {R : Ending → World → Prop} (hc : ∀ G, AtL wr G dv d → Calls Try.prog fn args wr R) : Calls Try.prog fn args wr R := by
  obtain ⟨⟨G, h1, -, -⟩, -, -⟩ := h
  exact hc G h1

set_option maxRecDepth 100000 in
theorem Has.doing (h : Has w F Z dv d wr) (hF : ∀ i, F i → i < w.heap.size) : Doing AtL w F dv d wr := by
  obtain ⟨⟨G, h1, h2, h3⟩, h4, h5⟩ := h
  exact ⟨atl_mono h1 h2 (fun i hi => Grow.lt hi hF h4.size), h4⟩

set_option maxRecDepth 100000 in
theorem Has.read {N n k : Nat} (h : Has w F Z dv d wr) (hf : d.Fine N) (hN : N ≤ 100000) (hn : d.S.length = n) (hk : k < n) (hd : d.down = false) :
    Calls Try.prog 22 #[dv, .int .i64 (k : Int)] wr fun e w' => e = .returned (.tuple #[.string (Jnl.now d k), .int .i64 0]) ∧ Has w F Z dv d w' ∧ ∀ i, Z i → w'.heap[i]? = wr.heap[i]? := by
  have hr : d.read (k : Int) = (Jnl.now d k, 0) := by
    unfold D.read
    rw [if_neg (by rw [hd]; simp), if_neg (by omega), Int.toNat_natCast]; rfl
  have hlen := hf.len
  refine h.call (Q := fun e => e = .returned (.tuple #[.string (Jnl.now d k), .int .i64 0])) (fun G hG => ?_)
  have := atl_read hG hf hN (k : Int) (by omega) (by omega)
  rw [hr] at this
  exact this
end

set_option maxRecDepth 100000 in
theorem own_same {w w' : World} {base t size n : Nat} {v : Value} {xs : List Value} (h : w.ownsRow base t size v n xs) (k : ∀ i, v.ownBlock = some i → w'.heap[i]? = w.heap[i]?) : w'.ownsRow base t size v n xs := by
  refine ⟨h.1, ?_⟩
  rcases h.2 with h2 | ⟨g, cap, cur, hv, hb, hg, r⟩
  · exact Or.inl h2
  · exact Or.inr ⟨g, cap, cur, hv, hb, (k g (by rw [hv]; rfl)).trans hg, r⟩

set_option maxRecDepth 100000 in
theorem row_same {w w' : World} {b : Nat} {t : TypeId} {cs : Array Value} {Z : Nat → Prop} (h : Row w b t cs) (k : ∀ i, Z i → w'.heap[i]? = w.heap[i]?) (hz : Z b) : Row w' b t cs := (k b hz).trans h
end Go.Proofs.Ytcgplonnhginiaa
/- The built-in append of a text to a slice of bytes: to the call's own, and where the new slice lies; to one that is full. No program is spoken of. -/
namespace Go.Proofs.Ytcgplonnhginiaa
open Go.RowKit

set_option maxRecDepth 100000 in
theorem AppS.byteInfo : (Try.prog.info? 5).map (fun i => (i.zero, i.size, i.bytes)) = some (some (.int .u8 0), 1, 1) := by kernel_rfl

set_option maxRecDepth 100000 in
theorem bcells_str (s : ByteArray) : Lib.strCells s = Lib.byteCells s.data.toList := rfl
set_option maxRecDepth 100000 in
theorem bcells_append (a b : List UInt8) : Lib.byteCells a ++ Lib.byteCells b = Lib.byteCells (a ++ b) := by unfold Lib.byteCells; rw [List.map_append]
set_option maxRecDepth 100000 in
theorem bcells_len (a : List UInt8) : (Lib.byteCells a).length = a.length := by unfold Lib.byteCells; rw [List.length_map]

/-- A slice of bytes: nil, or at a block of F. -/
def BytesAt (w : World) (F : Nat → Prop) (v : Value) (l : List UInt8) : Prop :=
  (v = .slice none 0 0 ∧ l = []) ∨ ∃ g o c, v = .slice (some ⟨g, o, none⟩) l.length c ∧ l.length ≤ c ∧ F g ∧ g < w.heap.size ∧ ∀ i u, (Lib.byteCells l)[i]? = some u → w.cell? ⟨g, o + i, none⟩ = some u

set_option maxRecDepth 100000 in
theorem BytesAt.cells {w : World} {F : Nat → Prop} {v : Value} {l : List UInt8} (h : BytesAt w F v l) : Cells w F v (Lib.byteCells l) := by
  rcases h with ⟨rfl, rfl⟩ | ⟨g, o, c, rfl, hc, hF, hg, hat⟩
  · exact Cells.none _ _
  · exact ⟨some ⟨g, o, none⟩, c, by rw [bcells_len], by rw [bcells_len]; exact hc, fun _ => ⟨g, o, rfl, hF, hg, hat⟩⟩

set_option maxRecDepth 100000 in
theorem BytesAt.kept {w w' : World} {F G : Nat → Prop} {v : Value} {l : List UInt8} (h : BytesAt w F v l) (k : Kept G w w') (hd : ∀ i, F i → ¬ G i) : BytesAt w' F v l := by
  rcases h with h | ⟨g, o, c, rfl, hc, hF, hg, hat⟩
  · exact Or.inl h
  · exact Or.inr ⟨g, o, c, rfl, hc, hF, Nat.lt_of_lt_of_le hg k.size, fun i u hu => (k.cell (p := ⟨g, o + i, none⟩) hg (hd g hF)).trans (hat i u hu)⟩

set_option maxRecDepth 100000 in
theorem BytesAt.below {w w' : World} {F : Nat → Prop} {v : Value} {l : List UInt8} (h : BytesAt w F v l) (k : Below w.heap.size w w') : BytesAt w' F v l := h.kept (Kept.ofBelow k (fun _ => False)) (fun _ _ h => h)

set_option maxRecDepth 100000 in
theorem BytesAt.same {w w' : World} {F Z : Nat → Prop} {v : Value} {l : List UInt8} (h : BytesAt w F v l) (k : ∀ i, Z i → w'.heap[i]? = w.heap[i]?) (hs : w.heap.size ≤ w'.heap.size) (hZ : ∀ i, F i → Z i) : BytesAt w' F v l := by
  rcases h with h | ⟨g, o, c, rfl, hc, hF, hg, hat⟩
  · exact Or.inl h
  · exact Or.inr ⟨g, o, c, rfl, hc, hF, Nat.lt_of_lt_of_le hg hs, fun i u hu => (World.cell?_of_block (w := w) (k g (hZ g hF))).trans (hat i u hu)⟩

set_option maxRecDepth 100000 in
theorem BytesAt.eq {w : World} {F : Nat → Prop} {v : Value} {l m : List UInt8} (h : BytesAt w F v l) (e : l = m) : BytesAt w F v m := e ▸ h

set_option maxRecDepth 100000 in
theorem BytesAt.form {w : World} {F : Nat → Prop} {v : Value} {l : List UInt8} (h : BytesAt w F v l) : ∃ A c, v = .slice A l.length c := by
  rcases h with ⟨rfl, rfl⟩ | ⟨g, o, c, rfl, -⟩
  · exact ⟨none, 0, rfl⟩
  · exact ⟨_, _, rfl⟩

set_option maxRecDepth 100000 in
theorem BytesAt.mono {w : World} {F G : Nat → Prop} {v : Value} {l : List UInt8} (h : BytesAt w F v l) (hF : ∀ i, F i → G i) : BytesAt w G v l := by
  rcases h with h | ⟨g, o, c, rfl, hc, hg, r⟩
  · exact Or.inl h
  · exact Or.inr ⟨g, o, c, rfl, hc, hF g hg, r⟩

set_option maxRecDepth 100000 in
theorem BytesAt.ofOwn {w : World} {base n : Nat} {v : Value} {l : List UInt8} (h : w.ownsRow base 5 1 v n (Lib.byteCells l)) : BytesAt w (fun i => v.ownBlock = some i) v l := by
  have hn : l.length = n := by have := h.1; rw [bcells_len, Nat.mul_one] at this; exact this
  subst hn
  rcases h.2 with ⟨hv, h0⟩ | ⟨g, cap, cur, hv, hb, hg, hc, hm, hs, ht⟩
  · exact Or.inl ⟨hv, List.eq_nil_of_length_eq_zero h0⟩
  · refine Or.inr ⟨g, 0, cap, hv, hc, by rw [hv]; rfl, lt_of_block hg, fun i u hu => ?_⟩
    rw [cell_of_row w g _ cur 5 (0, 0) hg, Nat.zero_add]
    rw [← ht, List.getElem?_take] at hu
    split at hu
    · rw [Array.getElem?_toList] at hu; exact hu
    · cases hu

section
variable {w : World}

set_option maxRecDepth 100000 in
theorem run_string_own (ty : TypeId) {base n : Nat} {v : Value} {l : List UInt8} (hown : w.ownsRow base 5 1 v n (Lib.byteCells l)) (s : ByteArray) (hn : n + s.size ≤ 1000000000) (hb : base ≤ w.heap.size) :
    ∃ v' w', (Builtin.append_ #[64, 9] ty #[v, .string s]).run Try.prog w = .ok v' w' ∧ w'.ownsRow base 5 1 v' (n + s.size) (Lib.byteCells (l ++ s.data.toList)) ∧ w.grownBy w' v.ownBlock ∧ (∀ g, v'.ownBlock = some g → v.ownBlock = some g ∨ w.heap.size ≤ g) := by
  obtain ⟨i0, hi, hz0, hz1, hz2⟩ := info_parts AppS.byteInfo
  obtain ⟨v', w', h1, h2, h3, -⟩ := Lib.run_append_own_string w base 64 9 ty 5 i0 Try.underlying64 Try.underlying9 hi hz0 hz1 hz2 v n (Lib.byteCells l) hown s (by unfold maxLen; omega) (by omega) hb
  refine ⟨v', w', h1, by rw [bcells_str, bcells_append] at h2; exact h2, h3, ?_⟩
  have hxl : (Lib.byteCells l).length = n := by simpa using hown.1
  rcases hown.2 with ⟨rfl, rfl⟩ | ⟨g, cap, cur, rfl, hbg, hg, hnc, hcm, hcs, htake⟩
  · have hx : Lib.byteCells l = [] := List.eq_nil_of_length_eq_zero hxl
    rw [hx] at hown
    obtain ⟨v2, w2, k1, k2, -, -⟩ := Lib.run_append_own_string w w.heap.size 64 9 ty 5 i0 Try.underlying64 Try.underlying9 hi hz0 hz1 hz2 (.slice none 0 0) 0 [] (World.ownsRow_nil w w.heap.size 5 1) s (by unfold maxLen; omega) (by omega) (Nat.le_refl _)
    rw [k1] at h1
    injection h1 with e1 e2
    subst e1
    intro g hg
    exact Or.inr (k2.lt g hg).1
  · intro g' hg'
    by_cases hroom : n + s.size ≤ cap
    · have hr := Lib.run_append_room_string (P := Try.prog) w 64 9 ty 5 i0 Try.underlying64 Try.underlying9 hi hz1 g n cap cur hg s hroom (by omega)
      rw [hr] at h1
      injection h1 with e1 e2
      rw [← e1] at hg'
      exact Or.inl hg'
    · have holds : ∀ j u, (Lib.byteCells l)[j]? = some u → w.cell? ((⟨g, 0, none⟩ : Addr).add j) = some u := hown.cells (g := g) rfl
      have hr := Lib.run_append_grow_string (P := Try.prog) w 64 9 ty 5 i0 (.int .u8 0) Try.underlying64 Try.underlying9 hi hz0 ⟨g, 0, none⟩ n cap (Lib.byteCells l) (by rw [hz1]; simpa using hxl) holds s (by omega) (by omega) (by rw [hz2]; exact growslice_fits (by omega) (by omega))
      rw [hr] at h1
      injection h1 with e1 e2
      rw [← e1] at hg'
      right
      have : w.heap.size = g' := by simpa [Value.ownBlock] using hg'
      omega

set_option maxRecDepth 100000 in
/-- To a slice that is full, whose cells lie wherever. -/
theorem run_string_full (ty : TypeId) {F : Nat → Prop} {A : Option Addr} {n : Nat} {l : List UInt8} (hc : Cells w F (.slice A n n) (Lib.byteCells l)) (s : ByteArray) (h0 : 0 < s.size ∨ A = none) (hn : n + s.size ≤ 1000000000) :
    ∃ v' w', (Builtin.append_ #[64, 9] ty #[.slice A n n, .string s]).run Try.prog w = .ok v' w' ∧ BytesAt w' (fun i => w.heap.size ≤ i ∧ i < w'.heap.size) v' (l ++ s.data.toList) ∧ Below w.heap.size w w' := by
  obtain ⟨i0, hi, hz0, hz1, hz2⟩ := info_parts AppS.byteInfo
  obtain ⟨A', cap, e, hcap, hat⟩ := hc
  injection e with e1 e2 e3
  subst e1
  have hlen : (Lib.byteCells l).length = n := e2.symm
  cases A with
  | none =>
    have hn0 : n = 0 := by
      rcases Nat.eq_zero_or_pos n with h | h
      · exact h
      · obtain ⟨b, o, e, -⟩ := hat (by omega)
        cases e
    subst hn0
    have hx : Lib.byteCells l = [] := List.eq_nil_of_length_eq_zero hlen
    have hl : l = [] := by
      have := bcells_len l
      rw [hx] at this
      exact List.eq_nil_of_length_eq_zero this.symm
    subst hl
    obtain ⟨v2, w2, k1, k2, k3, -⟩ := Lib.run_append_own_string w w.heap.size 64 9 ty 5 i0 Try.underlying64 Try.underlying9 hi hz0 hz1 hz2 (.slice none 0 0) 0 [] (World.ownsRow_nil w w.heap.size 5 1) s (by unfold maxLen; omega) (by omega) (Nat.le_refl _)
    refine ⟨v2, w2, k1, ?_, ⟨k3.os, k3.tape, k3.output, k3.size, fun i hi => k3.block i hi (by simp [Value.ownBlock])⟩⟩
    rw [List.nil_append, bcells_str] at k2
    exact (BytesAt.ofOwn k2).mono (fun b hb => ⟨(k2.lt b hb).1, (k2.lt b hb).2⟩)
  | some ad =>
    have hs0 : 0 < s.size := by
      rcases h0 with h0 | h0
      · exact h0
      · cases h0
    have holds : ∀ j u, (Lib.byteCells l)[j]? = some u → w.cell? (ad.add j) = some u := by
      intro j u hu
      have hp : 0 < (Lib.byteCells l).length := by
        rcases Nat.eq_zero_or_pos (Lib.byteCells l).length with h | h
        · rw [List.eq_nil_of_length_eq_zero h] at hu; cases hu
        · exact h
      obtain ⟨b, o, e, -, -, hcell⟩ := hat hp
      injection e with e
      subst e
      rw [Go.WideShapes.add_plain]
      exact hcell j u hu
    have hr := Lib.run_append_grow_string (P := Try.prog) w 64 9 ty 5 i0 (.int .u8 0) Try.underlying64 Try.underlying9 hi hz0 ad n n (Lib.byteCells l) (by rw [hz1]; simpa using hlen) holds s (by omega) (by omega) (by rw [hz2]; exact growslice_fits (by omega) (by omega))
    have hge := grownCap_ge w (n + s.size) n 5
    have hls : (Lib.byteCells (l ++ s.data.toList)).length = n + s.size := by rw [← bcells_append, List.length_append, hlen, bcells_len, Lib.size_eq]
    refine ⟨_, _, hr, Or.inr ⟨w.heap.size, 0, grownCap w (n + s.size) n 5, by rw [← bcells_len, hls], by rw [← bcells_len, hls]; exact hge, ⟨Nat.le_refl _, by simp⟩, by simp, fun j u hu => ?_⟩, ⟨rfl, rfl, rfl, by simp, fun k hk => Below.heap_alloc w.drew _ k hk⟩⟩
    rw [cell_of_row _ w.heap.size (0 + j) _ 5 (0, 0) (heap_alloc_new w.drew _), Nat.zero_add, bcells_str]
    have hj : j < (Lib.byteCells (l ++ s.data.toList)).length := by
      by_cases h : j < (Lib.byteCells (l ++ s.data.toList)).length
      · exact h
      · rw [List.getElem?_eq_none (by omega)] at hu; cases hu
    rw [Array.getElem?_append_left (by
      rw [Array.size_append, List.size_toArray, List.size_toArray, ← List.length_append, bcells_append]; exact hj)]
    rw [← hu, ← bcells_append, ← Array.getElem?_toList]
    simp

set_option maxRecDepth 100000 in
theorem wp_string_own {ops : Array Oper} {rest : List Oper} {o : Oper} {a : Act} {Q : Exit → Act → World → Prop} (hgd : o.guard = none) (sl x : Operand)
    (ho : o.op = .call { callee := .builtin .append, args := #[sl, x], argTypes := #[64, 9] }) {base n : Nat} {v : Value} {l : List UInt8} {s : ByteArray} (hs : a.eval sl = v) (hx : a.eval x = .string s)
    (hown : w.ownsRow base 5 1 v n (Lib.byteCells l)) (hn : n + s.size ≤ 1000000000) (hb : base ≤ w.heap.size)
    (h : ∀ v' w', w'.ownsRow base 5 1 v' (n + s.size) (Lib.byteCells (l ++ s.data.toList)) → w.grownBy w' v.ownBlock → (∀ g, v'.ownBlock = some g → v.ownBlock = some g ∨ w.heap.size ≤ g) → wpList Try.prog ops Q rest (a.put o.dst v') w') : wpList Try.prog ops Q (o :: rest) a w :=
  wpList_plain hgd fun _ hK => by
    obtain ⟨v', w', r1, r2, r3, r4⟩ := run_string_own o.type hown s hn hb
    unfold Oper.wp execOp
    simp only [ho, resolve, invoke, builtin, Sem.run_bind, Sem.run_pure, Result.andThen_ok, List.map_toArray, List.map_cons, List.map_nil, hs, hx, r1]
    exact hK _ _ (h v' w' r2 r3 r4)

set_option maxRecDepth 100000 in
theorem wp_string_full {ops : Array Oper} {rest : List Oper} {o : Oper} {a : Act} {Q : Exit → Act → World → Prop} (hgd : o.guard = none) (sl x : Operand)
    (ho : o.op = .call { callee := .builtin .append, args := #[sl, x], argTypes := #[64, 9] }) {F : Nat → Prop} {A : Option Addr} {n : Nat} {l : List UInt8} {s : ByteArray} (hs : a.eval sl = .slice A n n) (hx : a.eval x = .string s)
    (hc : Cells w F (.slice A n n) (Lib.byteCells l)) (h0 : 0 < s.size ∨ A = none) (hn : n + s.size ≤ 1000000000)
    (h : ∀ v' w', BytesAt w' (fun i => w.heap.size ≤ i ∧ i < w'.heap.size) v' (l ++ s.data.toList) → Below w.heap.size w w' → wpList Try.prog ops Q rest (a.put o.dst v') w') : wpList Try.prog ops Q (o :: rest) a w :=
  wpList_plain hgd fun _ hK => by
    obtain ⟨v', w', r1, r2, r3⟩ := run_string_full o.type hc s h0 hn
    unfold Oper.wp execOp
    simp only [ho, resolve, invoke, builtin, Sem.run_bind, Sem.run_pure, Result.andThen_ok, List.map_toArray, List.map_cons, List.map_nil, hs, hx, r1]
    exact hK _ _ (h v' w' r2 r3)

set_option maxRecDepth 100000 in
/-- The call's own bytes, and behind them those of a slice. -/
theorem run_bytes_own (ty : TypeId) {base : Nat} {F : Nat → Prop} {v xv : Value} {us vs : List UInt8} (hown : w.ownsRow base 5 1 v us.length (Lib.byteCells us)) (hb : base ≤ w.heap.size) (hx : BytesAt w F xv vs) (hl : us.length + vs.length ≤ 1000000000) :
    ∃ v' w', (Builtin.append_ #[64, 64] ty #[v, xv]).run Try.prog w = .ok v' w' ∧ w'.ownsRow base 5 1 v' (us ++ vs).length (Lib.byteCells (us ++ vs)) ∧ w.grownBy w' v.ownBlock := by
  obtain ⟨i0, hi, hz0, hz1, hz2⟩ := info_parts AppS.byteInfo
  have hone : ∀ u ∈ Lib.byteCells vs, u.oneCell' = true := by
    intro u hu
    unfold Lib.byteCells at hu
    obtain ⟨t, -, rfl⟩ := List.mem_map.1 hu
    rfl
  rcases hx with ⟨rfl, rfl⟩ | ⟨g, o, c, rfl, hc, hF, hg, hat⟩
  · refine ⟨v, w, ?_, by rw [List.append_nil]; exact hown, rfl, rfl, rfl, Nat.le_refl _, fun _ _ _ => rfl⟩
    rcases hown.2 with ⟨rfl, h0⟩ | ⟨g, cap, cur, rfl, _, _, hnc, _⟩
    · simp [Builtin.append_, run_underlying Try.underlying64, sizeOf, typeInfo, hi, Builtin.lenOf, Builtin.firstCells]
    · simp [Builtin.append_, run_underlying Try.underlying64, sizeOf, typeInfo, hi, Builtin.lenOf, Builtin.firstCells, hnc, storeCells]
  · obtain ⟨v', w', h1, h2, h3, -⟩ := run_append_own w base 64 ty 5 i0 (.int .u8 0) 1 1 Try.underlying64 hi hz0 hz1 hz2 rfl (by decide) v us.length (Lib.byteCells us) hown ⟨g, o, none⟩ vs.length c (Lib.byteCells vs) (by rw [bcells_len, Nat.mul_one]) (fun j u hu => by rw [Go.WideShapes.add_plain]; exact hat j u hu) hone (by unfold maxLen; omega) (by omega) hb
    exact ⟨v', w', h1, by rw [List.length_append, ← bcells_append]; exact h2, h3⟩

set_option maxRecDepth 100000 in
theorem wp_bytes_own {ops : Array Oper} {rest : List Oper} {o : Oper} {a : Act} {Q : Exit → Act → World → Prop} (hgd : o.guard = none) (sl x : Operand)
    (ho : o.op = .call { callee := .builtin .append, args := #[sl, x], argTypes := #[64, 64] }) {base : Nat} {F : Nat → Prop} {v xv : Value} {us vs : List UInt8} (hs : a.eval sl = v) (hx : a.eval x = xv)
    (hown : w.ownsRow base 5 1 v us.length (Lib.byteCells us)) (hb : base ≤ w.heap.size) (hc : BytesAt w F xv vs) (hl : us.length + vs.length ≤ 1000000000)
    (h : ∀ v' w', w'.ownsRow base 5 1 v' (us ++ vs).length (Lib.byteCells (us ++ vs)) → w.grownBy w' v.ownBlock → wpList Try.prog ops Q rest (a.put o.dst v') w') : wpList Try.prog ops Q (o :: rest) a w :=
  wpList_plain hgd fun _ hK => by
    obtain ⟨v', w', r1, r2, r3⟩ := run_bytes_own o.type hown hb hc hl
    unfold Oper.wp execOp
    simp only [ho, resolve, invoke, builtin, Sem.run_bind, Sem.run_pure, Result.andThen_ok, List.map_toArray, List.map_cons, List.map_nil, hs, hx, r1]
    exact hK _ _ (h v' w' r2 r3)

set_option maxRecDepth 100000 in
/-- string(b) -/
theorem conv_bytes {F : Nat → Prop} {v : Value} {l : List UInt8} (h : BytesAt w F v l) : (convert 64 9 v).run Try.prog w = .ok (.string ⟨l.toArray⟩) w := by
  rcases h with ⟨rfl, rfl⟩ | ⟨g, o, c, rfl, hc, hF, hg, hat⟩
  · exact Lib.run_convert_nil_bytes (P := Try.prog) w 64 9 5 0 Try.underlying64 Try.underlying5 Try.underlying9
  · refine run_convert_bytes_back (P := Try.prog) w 64 9 5 ⟨g, o, none⟩ c l Try.underlying64 Try.underlying5 Try.underlying9 (fun j hj => ?_)
    rw [Go.WideShapes.add_plain]
    exact hat j _ (by simp [Lib.byteCells, hj])
end
end Go.Proofs.Ytcgplonnhginiaa
/- The landed journal: the bytes of the last sector, a copy. -/
set_option linter.unusedSimpArgs false
set_option linter.unusedVariables false
namespace Go.Proofs.Ytcgplonnhginiaa
open Go.RowKit Dsk Jnl

/-- Of bytes those in the sector that is used last, where it is not full. -/
def tailB (l : List UInt8) : List UInt8 := l.drop (64 * (l.length / 64))

def Fresh (w w' : World) (k : Nat) : Prop := w.heap.size ≤ k ∧ k < w'.heap.size

section
variable {w : World} {F : Nat → Prop} {v : Value} {l : List UInt8}

set_option maxRecDepth 100000 in
theorem clone_bytes (h : BytesAt w F v l) (hl : l.length ≤ 1000000) :
    Calls Try.prog 52 #[v] w fun e w' => ∃ v', e = .returned v' ∧ BytesAt w' (Fresh w w') v' l ∧ Below w.heap.size w w' := by
  have H := Lib.hid h
  rcases h with ⟨rfl, rfl⟩ | ⟨g, o, c, rfl, hc, hF, hg, hat⟩
  · clear H
    have hnil := Lib.run_eql_slice_nil (P := Try.prog) w 64 5 none 0 0 0 0 Try.underlying64
    go_enter Try.func52, Try.ntmps52
    go_wp2_with fail
    go_ret
    exact ⟨.slice none 0 0, rfl, Or.inl ⟨rfl, rfl⟩, Below.refl _ _⟩
  · have hnil := Lib.run_eql_slice_nil (P := Try.prog) w 64 5 (some ⟨g, o, none⟩) l.length c 0 0 Try.underlying64
    have Hl := Lib.hid hl
    have hown : (w.alloc (.cells #[] 5)).ownsRow w.heap.size 5 1 (.slice (some ⟨w.heap.size, 0, none⟩) 0 0) 0 [] :=
      World.ownsRow_made w #[] 0 (Nat.le_refl _) (by decide) rfl
    clear hat hl hc hF
    go_enter Try.func52, Try.ntmps52
    go_wp2_with (at_builtin; refine wp_bytes_own (us := []) (vs := l) (base := w.heap.size) (F := F) rfl _ _ rfl (by rfl) (by rfl) hown (by simp) (H.out.below ((Below.refl _ _).alloc (Nat.le_refl _) _)) (by have := Hl.out; simp; omega) ?_
                 intro v2 w2 hown2 hg2)
    go_ret
    refine ⟨v2, rfl, (BytesAt.ofOwn hown2).mono (fun i hi => ⟨(hown2.lt i hi).1, (hown2.lt i hi).2⟩), ((Below.refl _ _).alloc (Nat.le_refl _) _).grown hg2 (by simp) (fun k e => Nat.le_of_eq (by simpa [Value.ownBlock] using e))⟩

set_option maxRecDepth 100000 in
theorem tail_of (h : BytesAt w F v l) (hl : l.length ≤ 1000000) :
    Calls Try.prog 33 #[v] w fun e w' => ∃ v', e = .returned v' ∧ BytesAt w' (Fresh w w') v' (tailB l) ∧ Below w.heap.size w w' := by
  have H := Lib.hid h
  rcases h with ⟨rfl, rfl⟩ | ⟨g, o, c, rfl, hc, hF, hg, hat⟩
  · have HC := Lib.hid (clone_bytes (w := w) (F := F) (v := .slice none 0 0) (l := tailB []) (Or.inl ⟨rfl, rfl⟩) (by decide))
    clear H
    go_enter Try.func33, Try.ntmps33
    go_wp2_with fail
    refine HC.out.mono ?_
    rintro e w' ⟨v', rfl, h1, h2⟩
    have h1 := Lib.hid h1
    have h2 := Lib.hid h2
    go_wp2_with fail
    go_ret
    exact ⟨v', rfl, h1.out, h2.out⟩
  · obtain ⟨K, hK⟩ : ∃ K, K = 64 * (l.length / 64) := ⟨_, rfl⟩
    have hmod : (l.length : Int).tmod 64 = ((l.length - K : Nat) : Int) := by rw [Int.tmod_eq_emod_of_nonneg (by omega)]; omega
    have hKl : K ≤ l.length := by omega
    have hsub : (l.length : Int) - ((l.length - K : Nat) : Int) = (K : Int) := by omega
    have htl : (tailB l).length = l.length - K := by unfold tailB; rw [List.length_drop, hK]
    have hcells : ∀ o', o' = o + K → ∀ i u, (Lib.byteCells (tailB l))[i]? = some u → w.cell? ⟨g, o' + i, none⟩ = some u := by
      intro o' ho i u hu
      have : (Lib.byteCells l)[K + i]? = some u := by
        unfold tailB Lib.byteCells at hu
        rw [← hK, List.map_drop, List.getElem?_drop] at hu
        exact hu
      rw [ho, Nat.add_assoc]
      exact hat _ _ this
    have hempty : K = l.length → tailB l = [] := fun e => List.eq_nil_of_length_eq_zero (by omega)
    by_cases hk : K < c
    · have HC := Lib.hid (clone_bytes (w := w) (F := F) (v := .slice (some ⟨g, o + K, none⟩) (l.length - K) (c - K)) (l := tailB l) (Or.inr ⟨g, o + K, c - K, by rw [htl], by omega, hF, hg, hcells _ rfl⟩) (by omega))
      have b1 : (K : Int) ≤ (l.length : Int) := by omega
      have b2 : (l.length : Int) ≤ (c : Int) := by omega
      have b3 : (K : Int) < (c : Int) := by omega
      have b4 : ¬ (K = c) := by omega
      have b5 : (l.length : Int) ≤ 1000000 := by omega
      clear hat hc hF hcells hempty htl hK hl H
      go_enter Try.func33, Try.ntmps33
      go_wp2_with fail
      refine HC.out.mono ?_
      rintro e w' ⟨v', rfl, h1, h2⟩
      have h1 := Lib.hid h1
      have h2 := Lib.hid h2
      go_wp2_with fail
      go_ret
      exact ⟨v', rfl, h1.out, h2.out⟩
    · obtain rfl : c = l.length := by omega
      have hKe : K = l.length := by omega
      have HC := Lib.hid (fun o' => clone_bytes (w := w) (F := F) (v := .slice (some ⟨g, o', none⟩) 0 0) (l := tailB l) (Or.inr ⟨g, o', 0, by rw [htl, hKe, Nat.sub_self], by omega, hF, hg, fun i u hu => by rw [hempty hKe] at hu; cases hu⟩) (by omega))
      have b5 : (l.length : Int) ≤ 1000000 := by omega
      have hmod0 : (l.length : Int).tmod 64 = 0 := by rw [hmod]; omega
      have hk0 : ((l.length - K : Nat) : Int) = 0 := by omega
      clear hat hc hF hcells hempty htl hl H hmod hsub hk hKl
      go_enter Try.func33, Try.ntmps33
      go_wp2_with fail
      refine (HC.out _).mono ?_
      rintro e w' ⟨v', rfl, h1, h2⟩
      have h1 := Lib.hid h1
      have h2 := Lib.hid h2
      go_wp2_with fail
      go_ret
      exact ⟨v', rfl, h1.out, h2.out⟩
end
end Go.Proofs.Ytcgplonnhginiaa
