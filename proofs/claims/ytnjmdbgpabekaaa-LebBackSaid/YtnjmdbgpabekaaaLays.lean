/- Any fields' bytes, or that they may not be laid: LebLays's statement holds. -/
import Derived.Test.YtnjmdbgpabekaaaOpen
import Derived.Test.YtnjmdbgpabekaaaAwake
namespace Go.Proofs.Ytnjmdbgpabekaaa
open Go.RowKit

/-- Lay, of a slice that reads as these fields. -/
theorem lay_in {W : World} {A : Option Addr} {len cap : Nat} {fs : List Fl} (h : FieldsIn W A len fs) (hl : len ≤ 1000) :
    Calls Try.prog 10 #[.slice A len cap] W (LayPost W fs) := by
  obtain ⟨hlen, hfit, hin⟩ := h
  subst hlen
  rcases Nat.eq_zero_or_pos fs.length with h0 | hpos
  · have : fs = [] := List.eq_nil_of_length_eq_zero h0
    subst this
    exact lay_empty A cap W
  · obtain ⟨b, off, rfl, hb, hf⟩ := hin hpos
    exact lay_any hf hb hl hfit

theorem FieldsIn.below {W W' : World} {A : Option Addr} {len : Nat} {fs : List Fl} (h : FieldsIn W A len fs) (hb : Below W.heap.size W W') : FieldsIn W' A len fs := by
  obtain ⟨h1, h2, h3⟩ := h
  refine ⟨h1, h2, fun hp => ?_⟩
  obtain ⟨b, off, e, hlt, hf⟩ := h3 hp
  exact ⟨b, off, e, Nat.lt_of_lt_of_le hlt hb.size, hf.below hb hlt⟩

theorem FieldsIn.cut {W : World} {A : Option Addr} {len : Nat} {fs : List Fl} (h : FieldsIn W A len fs) {n : Nat} (hn : n ≤ len) : FieldsIn W A n (fs.take n) := by
  obtain ⟨h1, h2, h3⟩ := h
  have hsub : ∀ (i : Nat) (f : Fl), (fs.take n)[i]? = some f → fs[i]? = some f := fun i f hf => by
    rw [List.getElem?_take] at hf
    split at hf
    · exact hf
    · cases hf
  refine ⟨by rw [List.length_take]; omega, fun i f hf => h2 i f (hsub i f hf), fun hp => ?_⟩
  obtain ⟨b, off, e, hlt, hf⟩ := h3 (by omega)
  exact ⟨b, off, e, hlt, fun i f hi => hf i f (hsub i f hi)⟩

/-! ### What the statement reckons -/

def negs (fs : List Fl) : Bool := fs.any (fun f => decide (f.head < 0))

/-- Behind k fields: what is gathered, and the error's number. -/
def LaysRel (w : World) (fs : List Fl) (k : Nat) (want : ByteArray) (e : Int) (wr : World) : Prop :=
  Below w.heap.size w wr ∧ want.size ≤ 400000 + 9 * k ∧ e = (if negs (fs.take k) then 3 else 0) ∧
    (negs (fs.take k) = false → want.data.toList = allBytes (fs.take k) ∨ (262144 < want.size ∧ 65536 < (allBytes (fs.take k)).length))

theorem negs_snoc {fs : List Fl} {k : Nat} {f : Fl} (hf : fs[k]? = some f) : negs (fs.take (k + 1)) = (negs (fs.take k) || decide (f.head < 0)) := by
  obtain ⟨hl, he⟩ := List.getElem?_eq_some_iff.1 hf
  rw [List.take_succ_eq_append_getElem hl, he]
  simp [negs]

theorem bytes_snoc {fs : List Fl} {k : Nat} {f : Fl} (hf : fs[k]? = some f) : allBytes (fs.take (k + 1)) = allBytes (fs.take k) ++ f.bytes := by
  obtain ⟨hl, he⟩ := List.getElem?_eq_some_iff.1 hf
  rw [List.take_succ_eq_append_getElem hl, he]
  simp [allBytes]

theorem lays_start (w : World) (fs : List Fl) : LaysRel w fs 0 ⟨#[]⟩ 0 w := ⟨Below.refl _ _, by simp [ByteArray.size], by simp [negs], fun _ => .inl (by simp [allBytes])⟩

/-- A field whose bytes are laid behind. -/
theorem lays_more {w wr w2 : World} {fs : List Fl} {k : Nat} {want : ByteArray} {e : Int} {f : Fl} (h : LaysRel w fs k want e wr) (hf : fs[k]? = some f) (hb : Below wr.heap.size wr w2) (hpos : 0 ≤ f.head)
    (hsz : want.size + f.bytes.length ≤ 400000 + 9 * (k + 1)) : LaysRel w fs (k + 1) (want ++ ⟨f.bytes.toArray⟩) e w2 := by
  obtain ⟨h1, h2, h3, h4⟩ := h
  have hn : negs (fs.take (k + 1)) = negs (fs.take k) := by rw [negs_snoc hf, decide_eq_false (by omega)]; simp
  have hs : (want ++ ⟨f.bytes.toArray⟩ : ByteArray).size = want.size + f.bytes.length := by rw [ByteArray.size_append]; rfl
  refine ⟨h1.trans (hb.mono h1.size), by omega, by rw [hn]; exact h3, fun h => ?_⟩
  rw [hn] at h
  rw [bytes_snoc hf]
  rcases h4 h with h5 | ⟨h5, h6⟩
  · left; rw [← h5]; simp [ByteArray.data_append]
  · right; rw [List.length_append]; omega

/-- A text that is not laid, as a great many bytes are there. -/
theorem lays_skip {w wr : World} {fs : List Fl} {k : Nat} {want : ByteArray} {e : Int} {f : Fl} (h : LaysRel w fs k want e wr) (hf : fs[k]? = some f) (hpos : 0 ≤ f.head) (hbig : 262144 < want.size) : LaysRel w fs (k + 1) want e wr := by
  obtain ⟨h1, h2, h3, h4⟩ := h
  have hn : negs (fs.take (k + 1)) = negs (fs.take k) := by rw [negs_snoc hf, decide_eq_false (by omega)]; simp
  refine ⟨h1, by omega, by rw [hn]; exact h3, fun h => ?_⟩
  rw [hn] at h
  rw [bytes_snoc hf, List.length_append]
  right
  rcases h4 h with h5 | ⟨_, h6⟩
  · rw [← h5, ← Lib.size_eq]; omega
  · omega

/-- A negative number. -/
theorem lays_neg {w wr : World} {fs : List Fl} {k : Nat} {want : ByteArray} {e : Int} {f : Fl} (h : LaysRel w fs k want e wr) (hf : fs[k]? = some f) (hneg : f.head < 0) : LaysRel w fs (k + 1) want 3 wr := by
  obtain ⟨h1, h2, h3, h4⟩ := h
  have hn : negs (fs.take (k + 1)) = true := by rw [negs_snoc hf, decide_eq_true hneg]; simp
  exact ⟨h1, by omega, by rw [hn]; rfl, fun h => by rw [hn] at h; cases h⟩

/-- Behind all: what Lay must answer. -/
theorem lays_end {w wr : World} {fs : List Fl} {want : ByteArray} {e : Int} (h : LaysRel w fs fs.length want e wr) :
    (e = 3 ∧ layOf fs = ([], 3)) ∨ (e = 0 ∧ want.size ≤ 65536 ∧ layOf fs = (want.data.toList, 0)) ∨ (e = 0 ∧ 65536 < want.size ∧ layOf fs = ([], 4)) := by
  obtain ⟨h1, h2, h3, h4⟩ := h
  rw [List.take_length] at h3 h4
  cases hn : negs fs with
  | true =>
    rw [hn] at h3
    refine .inl ⟨h3, ?_⟩
    unfold layOf
    rw [if_pos (show fs.any (fun f => decide (f.head < 0)) = true from hn)]
  | false =>
    rw [hn] at h3
    have h5 := h4 hn
    have hng : ¬ fs.any (fun f => decide (f.head < 0)) = true := by rw [show fs.any (fun f => decide (f.head < 0)) = false from hn]; simp
    right
    by_cases hb : 65536 < want.size
    · refine .inr ⟨h3, hb, ?_⟩
      unfold layOf
      rw [if_neg hng, if_pos]
      rcases h5 with h5 | h5
      · rw [← h5, ← Lib.size_eq]; exact hb
      · exact h5.2
    · refine .inl ⟨h3, by omega, ?_⟩
      unfold layOf
      rcases h5 with h5 | h5
      · rw [if_neg hng, if_neg (by rw [← h5, ← Lib.size_eq]; omega), h5]
      · omega

end Go.Proofs.Ytnjmdbgpabekaaa
