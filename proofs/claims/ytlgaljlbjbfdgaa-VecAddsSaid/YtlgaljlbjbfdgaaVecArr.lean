/- Vectors as arrays that are filled index by index, as plain data. No program is spoken of. -/
import Derived.Test.YtlgaljlbjbfdgaaVecMath
namespace Go.Proofs.Ytlgaljlbjbfdgaa.Vec
open Ver (V Right)

/-- The first k numbers are f's, the others v's. -/
def part (f : Nat → Int) (v : List Int) (k : Nat) : List Int := (make f).take k ++ v.drop k
set_option maxRecDepth 100000 in
theorem part_zero (f : Nat → Int) (v : List Int) : part f v 0 = v := by unfold part; rw [List.take_zero, List.drop_zero]; rfl
set_option maxRecDepth 100000 in
theorem part_all (f : Nat → Int) {v : List Int} (h : v.length = 65) : part f v 65 = make f := by
  unfold part
  rw [List.take_of_length_le (by rw [make_len]; omega), List.drop_of_length_le (by omega), List.append_nil]
set_option maxRecDepth 100000 in
theorem part_len (f : Nat → Int) {v : List Int} (h : v.length = 65) {k : Nat} (hk : k ≤ 65) : (part f v k).length = 65 := by
  unfold part
  rw [List.length_append, List.length_take, List.length_drop, make_len, h]
  omega
set_option maxRecDepth 100000 in
theorem part_lt (f : Nat → Int) (v : List Int) {k i : Nat} (hk : k ≤ 65) (hi : i < k) : (part f v k)[i]? = some (f i) := by
  unfold part
  rw [List.getElem?_append_left (by rw [List.length_take, make_len]; omega), List.getElem?_take, if_pos hi, make_at f i (by omega)]
set_option maxRecDepth 100000 in
theorem part_ge (f : Nat → Int) (v : List Int) {k i : Nat} (hk : k ≤ 65) (hi : k ≤ i) : (part f v k)[i]? = v[i]? := by
  unfold part
  rw [List.getElem?_append_right (by rw [List.length_take, make_len]; omega), List.length_take, make_len, List.getElem?_drop]
  congr 1
  omega
set_option maxRecDepth 100000 in
theorem part_set (f : Nat → Int) {v : List Int} (h : v.length = 65) {k : Nat} (hk : k < 65) : (part f v k).set k (f k) = part f v (k + 1) := by
  apply List.ext_getElem?
  intro i
  by_cases hi : i = k
  · subst hi
    rw [List.getElem?_set_self (by rw [part_len f h (by omega)]; omega), part_lt f v (by omega) (by omega)]
  · rw [List.getElem?_set_ne (fun e => hi e.symm)]
    by_cases h2 : i < k
    · rw [part_lt f v (by omega) h2, part_lt f v (by omega) (by omega)]
    · rw [part_ge f v (by omega) (by omega), part_ge f v (by omega) (by omega)]

set_option maxRecDepth 100000 in
theorem make_ext {f g : Nat → Int} (h : ∀ i, i < 65 → f i = g i) : make f = make g := by
  unfold make
  exact List.map_congr_left (fun i hi => h i (List.mem_range.1 hi))
set_option maxRecDepth 100000 in
/-- Numbers below 0 away, then the one at 0. -/
theorem clean_set (v : List Int) : (make (fun i => max ((v[i]?).getD 0) 0)).set 0 0 = clean v := by
  apply List.ext_getElem?
  intro i
  by_cases h65 : i < 65
  · rw [show clean v = make (at_ v) from rfl, make_at _ i h65]
    by_cases hi : i = 0
    · subst hi
      rw [List.getElem?_set_self (by rw [make_len]; omega), at_zero v 0 (by omega)]
    · rw [List.getElem?_set_ne (fun e => hi e.symm), make_at _ i h65]
      unfold at_
      rw [if_pos (by omega)]
  · rw [List.getElem?_eq_none (by rw [List.length_set, make_len]; omega), List.getElem?_eq_none (by rw [(clean_plain v).1]; omega)]
set_option maxRecDepth 100000 in
theorem clean_get (v : List Int) {i : Nat} (h : i < 65) : (clean v)[i]? = some (at_ v i) := make_at _ i h
set_option maxRecDepth 100000 in
theorem clean_len (v : List Int) : (clean v).length = 65 := make_len _
set_option maxRecDepth 100000 in
/-- What put does. -/
theorem up_max {v : List Int} (h : Plain v) {x : V} (hx : Right x) {n : Int} (hn : v[x.by_.toNat]? = some n) : v.set x.by_.toNat (max n x.n) = up v x := by
  have hr := hx
  unfold Right at hr
  have e : n = at_ v x.by_.toNat := by
    have := h.2 x.by_.toNat (by omega)
    rw [hn] at this
    injection this
  by_cases hl : at_ v x.by_.toNat < x.n
  · rw [up_yes ⟨hx, hl⟩, show max n x.n = x.n by omega]
  · rw [up_no (fun k => hl k.2), show max n x.n = n by omega]
    apply List.ext_getElem?
    intro i
    by_cases hi : i = x.by_.toNat
    · subst hi
      rw [List.getElem?_set_self (by rw [h.1]; omega), hn]
    · rw [List.getElem?_set_ne (fun e => hi e.symm)]

set_option maxRecDepth 100000 in
theorem covers_join (a b : List Int) : join a b = clean a ↔ Covers a b := by
  constructor
  · intro h i hi
    have e : at_ (join a b) i = at_ (clean a) i := by rw [h]
    rw [at_join, at_clean] at e
    omega
  · intro h
    refine plain_ext (join_plain a b) (clean_plain a) (fun i => ?_)
    rw [at_join, at_clean]
    by_cases hi : i < 65
    · have := h i hi
      omega
    · rw [at_far a i hi, at_far b i hi]; rfl

/-- The last versions of the first k indices. -/
def endsK (v : List Int) (k : Nat) : List V := ((List.range k).filter fun i => decide (0 < at_ v i)).map fun (i : Nat) => ⟨(i : Int), at_ v i⟩
set_option maxRecDepth 100000 in
theorem endsK_zero (v : List Int) : endsK v 0 = [] := rfl
set_option maxRecDepth 100000 in
theorem endsK_all (v : List Int) : endsK v 65 = ends v := rfl
set_option maxRecDepth 100000 in
theorem endsK_more (v : List Int) (k : Nat) (h : 0 < at_ v k) : endsK v (k + 1) = endsK v k ++ [⟨(k : Int), at_ v k⟩] := by
  unfold endsK
  rw [List.range_succ, List.filter_append, List.map_append]
  congr 1
  simp [h]
set_option maxRecDepth 100000 in
theorem endsK_same (v : List Int) (k : Nat) (h : ¬ 0 < at_ v k) : endsK v (k + 1) = endsK v k := by
  unfold endsK
  rw [List.range_succ, List.filter_append, List.map_append]
  simp [h]
set_option maxRecDepth 100000 in
theorem endsK_one (v : List Int) : endsK v 1 = [] := by
  rw [endsK_same v 0 (by rw [at_zero v 0 (by omega)]; omega), endsK_zero]
set_option maxRecDepth 100000 in
theorem endsK_len (v : List Int) (k : Nat) : (endsK v k).length ≤ k := by
  unfold endsK
  rw [List.length_map]
  exact Nat.le_trans (List.length_filter_le ..) (by rw [List.length_range]; exact Nat.le_refl _)
set_option maxRecDepth 100000 in
theorem num_nat (v : List Int) {k : Nat} (hk : k < 65) : num v (k : Int) = at_ v k := by
  unfold num
  by_cases h : 1 ≤ (k : Int) ∧ (k : Int) ≤ 64
  · rw [if_pos h, Int.toNat_natCast]
  · rw [if_neg h, at_zero v k (by omega)]
set_option maxRecDepth 100000 in
theorem plain_iff {v : List Int} (hv : v.length = 65) : Plain v ↔ ∀ i, i < 65 → v[i]? = some (at_ v i) := ⟨fun h => h.2, fun h => ⟨hv, h⟩⟩
instance (v : List Int) : Decidable (Plain v) := inferInstanceAs (Decidable (_ ∧ _))
set_option maxRecDepth 100000 in
theorem at_le {v : List Int} (h : ∀ n ∈ v, n ≤ 9223372036854775807) (i : Nat) : at_ v i ≤ 9223372036854775807 := by
  unfold at_
  split
  · cases hn : v[i]? with
    | none => show max (0 : Int) 0 ≤ _; omega
    | some n =>
      have := h n (List.mem_of_getElem? hn)
      show max n 0 ≤ _
      omega
  · omega
end Go.Proofs.Ytlgaljlbjbfdgaa.Vec
