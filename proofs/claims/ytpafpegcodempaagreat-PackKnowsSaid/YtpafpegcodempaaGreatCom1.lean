import Derived.Below
import Derived.Laws.OwnMore
import Derived.Deep.Draws
import Derived.Laws.Rows
import Derived.OneCell
import Derived.OwnWalk
import Derived.Test.YtpafpegcodempaaGreatRows
import Derived.WalkKit
import Derived.WalkSpells
import Derived.Lib.Hide
import Derived.Lib.Strings
import Derived.Deep.QuietTactic
import Derived.BigQuiet
import Derived.Laws.BitsAllLaws
import Derived.Lib.BufferWrite
import Derived.Lib.UnsafeStr
import Derived.Laws.MakeOwn
import Derived.Laws.ResultCell
import Derived.Outline
set_option maxRecDepth 100000
set_option linter.all false
set_option maxHeartbeats 12800000
namespace Go.Proofs.YtpafpegcodempaaGreat
theorem zz : (∀ (a : Act) (o : Option Nat) (v : Value), a.put o v = match o with | some d => { a with tmps := a.tmps.setIfInBounds d v } | none => a) ∧ (∀ {α : Type} (xs : List α) (i : Nat) (h : i < xs.toArray.size), xs.toArray[i] = xs[i]'(by simpa using h)) ∧ (∀ {α : Type} (a : α) (l : List α) (h : 0 < (a :: l).length), (a :: l)[0] = a) ∧ (∀ {α : Type} (a : α) (l : List α) (i : Nat) (h : i + 1 < (a :: l).length), (a :: l)[i + 1] = l[i]'(by simpa using h)) ∧ (∀ {α : Type} (l : List α) (i : Nat) (a : α), l.toArray.setIfInBounds i a = (l.set i a).toArray) ∧ (∀ {α : Type} (a b : α) (l : List α), (a :: l).set 0 b = b :: l) ∧ (∀ {α : Type} (a b : α) (l : List α) (i : Nat), (a :: l).set (i + 1) b = a :: l.set i b) :=
 ⟨fun _ _ _ => rfl, fun _ _ _ => List.getElem_toArray _, fun _ _ _ => rfl, fun _ _ _ _ => rfl, fun _ _ _ => List.setIfInBounds_toArray .., fun _ _ _ => rfl, fun _ _ _ _ => rfl⟩
open Go.RowKit
def Row (w : World) (b : Nat) (t : TypeId) (cs : Array Value) : Prop := w.heap[b]? = some (Obj.cells cs t (0, 0))
section
variable {w w' : World} {b : Nat} {t : TypeId} {cs : Array Value}
theorem Row.inHeap (h : Row w b t cs) : b < w.heap.size := lt_of_block h
theorem Row.at (h : Row w b t cs) (i : Nat) : w.cell? ⟨b, i, none⟩ = cs[i]? := cell_of_row w b i cs t (0, 0) h
theorem Row.free (h : Row w b t cs) (i : Nat) : w.frozen? ⟨b, i, none⟩ = false := by
 have h' : w.heap[b]? = some (Obj.cells cs t (0, 0)) := h
 simp only [World.frozen?, h']
 simp
theorem Row.made (w : World) (t : TypeId) (cs : Array Value) : Row (w.alloc (.cells cs t)) w.heap.size t cs := heap_alloc_new w _
theorem Row.behindDraws (h : Row w b t cs) (n : Nat) : Row (w.drewN n) b t cs := h
theorem Row.behindNew (h : Row w b t cs) (o : Obj) : Row (w.alloc o) b t cs := (Below.heap_alloc w o b h.inHeap).trans h
theorem Row.stored (h : Row w b t cs) (i : Nat) (u : Value) : Row (w.setCell ⟨b, i, none⟩ u) b t (cs.setIfInBounds i u) := by
 have h' : w.heap[b]? = some (Obj.cells cs t (0, 0)) := h
 show (w.heap.modify b _)[b]? = _
 rw [Array.getElem?_modify, if_pos rfl, h']
 simp
theorem Row.storedElsewhere (h : Row w b t cs) {p : Addr} (hp : p.block ≠ b) (u : Value) : Row (w.setCell p u) b t cs :=
 (Below.heap_setCell w p u b (fun e => hp e.symm)).trans h
theorem Row.below {B : Nat} (h : Row w b t cs) (hb : Below B w w') (hB : b < B) : Row w' b t cs := (hb.block b hB).trans h
theorem Row.grown {row : Option Nat} (h : Row w b t cs) (hg : w.grownBy w' row) (hne : row ≠ some b) : Row w' b t cs :=
 (hg.block b h.inHeap (fun e => hne e.symm)).trans h
end
section
variable {a w w' : World} {b : Nat}
theorem gb_refl (w : World) (r : Option Nat) : w.grownBy w r := ⟨rfl, rfl, rfl, Nat.le_refl _, fun _ _ _ => rfl⟩
theorem gb_trans {r : Option Nat} (h : a.grownBy w r) (k : w.grownBy w' r) : a.grownBy w' r :=
 ⟨k.os.trans h.os, k.tape.trans h.tape, k.output.trans h.output, Nat.le_trans h.size k.size, fun i hi hn => (k.block i (Nat.lt_of_lt_of_le hi h.size) hn).trans (h.block i hi hn)⟩
theorem gb_draw {r : Option Nat} (h : a.grownBy w r) : a.grownBy w.drew r := ⟨h.os, h.tape, h.output, h.size, h.block⟩
theorem gb_new {r : Option Nat} (h : a.grownBy w r) (o : Obj) : a.grownBy (w.alloc o) r :=
 gb_trans h ⟨rfl, rfl, rfl, by simp, fun i hi _ => Below.heap_alloc w o i hi⟩
theorem gb_store (h : a.grownBy w (some b)) (i : Nat) (u : Value) : a.grownBy (w.setCell ⟨b, i, none⟩ u) (some b) :=
 gb_trans h ⟨rfl, rfl, rfl, by simp [World.setCell], fun k _ hn => Below.heap_setCell w _ u k (fun e => hn (by rw [e]))⟩
theorem gb_below (h : Below a.heap.size a w) (r : Option Nat) : a.grownBy w r := ⟨h.os, h.tape, h.output, h.size, fun i hi _ => h.block i hi⟩
end
open Go.RowKit
def Rd (w : World) (b : Nat) (r : ByteArray) (e : Int) : Prop := Row w b 190 #[.string r, .int .i64 e]
theorem err_any {w : World} {b : Nat} {r : ByteArray} {e0 : Int} (h : Rd w b r e0) :
  Calls Tryz.prog 140 #[.pointer (some ⟨b, 0, none⟩)] w fun e w' => e = .returned (.int .i64 e0) ∧ w = w' := by
 have c1 : w.cell? ⟨b, 1, none⟩ = some (.int .i64 e0) := Row.at h 1
 clear h
 go_enter Tryz.func140, Tryz.ntmps140
 go_wp2
 go_ret
 exact ⟨rfl, rfl⟩
theorem left_any {w : World} {b : Nat} {r : ByteArray} {e0 : Int} (h : Rd w b r e0) :
  Calls Tryz.prog 141 #[.pointer (some ⟨b, 0, none⟩)] w fun e w' => e = .returned (.int .i64 r.size) ∧ w = w' := by
 have c0 : w.cell? ⟨b, 0, none⟩ = some (.string r) := Row.at h 0
 clear h
 go_enter Tryz.func141, Tryz.ntmps141
 go_wp2
 go_ret
 exact ⟨rfl, rfl⟩
theorem fail_any {w : World} {b : Nat} {r : ByteArray} {e0 : Int} (h : Rd w b r e0) (x : Int) :
  Calls Tryz.prog 238 #[.pointer (some ⟨b, 0, none⟩), .int .i64 x] w fun e w' => e = .returned (.tuple #[]) ∧ Rd w' b ⟨#[]⟩ x ∧ w.grownBy w' (some b) := by
 have c0 : w.cell? ⟨b, 0, none⟩ = some (.string r) := Row.at h 0
 have c1 : w.cell? ⟨b, 1, none⟩ = some (.int .i64 e0) := Row.at h 1
 have f0 := Row.free h 0
 have f1 := Row.free h 1
 have k1 : Row ((w.setCell ⟨b, 0, none⟩ (.string ⟨#[]⟩)).setCell ⟨b, 1, none⟩ (.int .i64 x)) b 190 #[.string ⟨#[]⟩, .int .i64 x] := by
  simpa using (Row.stored h 0 (.string ⟨#[]⟩)).stored 1 (.int .i64 x)
 have K1 := Lib.hid k1
 clear k1 h
 go_enter Tryz.func238, Tryz.ntmps238
 go_wp2
 go_end0
 exact ⟨rfl, K1.out, gb_store (gb_store (gb_refl _ _) 0 _) 1 _⟩
theorem take_none {w : World} {b : Nat} {r : ByteArray} {e0 : Int} (h : Rd w b r e0) (h0 : r.size = 0) :
  Calls Tryz.prog 241 #[.pointer (some ⟨b, 0, none⟩)] w fun e w' => e = .returned (.tuple #[.int .u8 0, .bool false]) ∧ w = w' := by
 obtain rfl : r = ⟨#[]⟩ := ByteArray.ext (Array.eq_empty_of_size_eq_zero h0)
 have c0 : w.cell? ⟨b, 0, none⟩ = some (.string ⟨#[]⟩) := Row.at h 0
 clear h h0
 go_enter Tryz.func241, Tryz.ntmps241
 go_wp2
 go_ret2
 exact ⟨rfl, rfl⟩
theorem take_some {w : World} {b : Nat} {r : ByteArray} {e0 : Int} (h : Rd w b r e0) (h0 : 0 < r.size) (hm : r.size ≤ 281474976710656) :
  Calls Tryz.prog 241 #[.pointer (some ⟨b, 0, none⟩)] w fun e w' =>
   e = .returned (.tuple #[.int .u8 (r[0]'h0).toNat, .bool true]) ∧ Rd w' b (r.extract 1 r.size) e0 ∧ w.grownBy w' (some b) := by
 have c0 : w.cell? ⟨b, 0, none⟩ = some (.string r) := Row.at h 0
 have f0 := Row.free h 0
 have k1 : Row (w.setCell ⟨b, 0, none⟩ (.string (r.extract 1 r.size))) b 190 #[.string (r.extract 1 r.size), .int .i64 e0] := by
  simpa using Row.stored h 0 (.string (r.extract 1 r.size))
 have K1 := Lib.hid k1
 clear k1 h
 have hne : r.toList.isEmpty = false := by
  rw [List.isEmpty_eq_false_iff, Lib.toList_data]
  intro hh
  have := Lib.size_eq r
  rw [hh] at this
  simp only [List.length_nil] at this
  omega
 go_enter Tryz.func241, Tryz.ntmps241
 go_wp2
 go_ret2
 exact ⟨rfl, K1.out, gb_store (gb_refl _ _) 0 _⟩
def endOf (n : Nat) (e : Int) : Int := if e = 0 then (if n = 0 then 0 else 6) else e
theorem end_any {w : World} {b : Nat} {r : ByteArray} {e0 : Int} (h : Rd w b r e0) (hm : r.size ≤ 281474976710656) :
  Calls Tryz.prog 277 #[.pointer (some ⟨b, 0, none⟩)] w fun e w' => e = .returned (.int .i64 (endOf r.size e0)) ∧ w = w' := by
 by_cases he : e0 = 0
 ·subst he
  by_cases h0 : r.size = 0
  ·have hp : ¬ (0 : Int) < (r.size : Int) := by omega
   have hfin : Hid (endOf r.size 0 = 0) := by unfold endOf; simp [h0, Hid]
   clear h0
   go_enter Tryz.func277, Tryz.ntmps277
   go_wp2_with (first | (go_at_call 140; refine (err_any h).mono ?_; rintro e w' ⟨rfl, rfl⟩) | (go_at_call 141; refine (left_any h).mono ?_; rintro e w' ⟨rfl, rfl⟩))
   go_ret
   exact ⟨by rw [hfin.out]; rfl, rfl⟩
  ·have hp : (0 : Int) < (r.size : Int) := by omega
   have hfin : Hid (endOf r.size 0 = 6) := by unfold endOf; simp [h0, Hid]
   clear h0
   go_enter Tryz.func277, Tryz.ntmps277
   go_wp2_with (first | (go_at_call 140; refine (err_any h).mono ?_; rintro e w' ⟨rfl, rfl⟩) | (go_at_call 141; refine (left_any h).mono ?_; rintro e w' ⟨rfl, rfl⟩))
   go_ret
   exact ⟨by rw [hfin.out]; rfl, rfl⟩
 ·have hfin : Hid (endOf r.size e0 = e0) := by unfold endOf; simp [he, Hid]
  have hb : (e0 != 0) = true := by simp [he]
  clear he
  go_enter Tryz.func277, Tryz.ntmps277
  go_wp2_with (first | (go_at_call 140; refine (err_any h).mono ?_; rintro e w' ⟨rfl, rfl⟩))
  go_ret
  exact ⟨by rw [hfin.out]; rfl, rfl⟩
end Go.Proofs.YtpafpegcodempaaGreat
namespace Go.Proofs.YtpafpegcodempaaGreat.Leb
def dec : Nat → Nat → Nat → List UInt8 → Nat × Nat × Int
 | 0, _, _, _ => (0, 0, 6)
 | _ + 1, _, _, [] => (0, 0, 5)
 | f + 1, i, acc, b :: rest =>
  if b = 0 ∧ 0 < i then (0, 0, 6)
  else if b.toNat < 128 then (acc + b.toNat % 128 * 128 ^ i, i + 1, 0)
  else dec f (i + 1) (acc + b.toNat % 128 * 128 ^ i) rest
def first (l : List UInt8) : Nat × Nat × Int := dec 9 0 0 l
def second (l : List UInt8) : List UInt8 × Nat × Int :=
 if (first l).2.2 = 0 then
  if l.length - (first l).2.1 < (first l).1 then ([], 0, 5) else ((l.drop (first l).2.1).take (first l).1, (first l).2.1 + (first l).1, 0)
 else ([], 0, (first l).2.2)
def encF : Nat → Nat → List UInt8
 | 0, n => [UInt8.ofNat n]
 | f + 1, n => if n ≤ 127 then [UInt8.ofNat n] else UInt8.ofNat (n % 128 + 128) :: encF f (n / 128)
def enc (n : Nat) : List UInt8 := encF 8 n
theorem encF_len (f n : Nat) : 1 ≤ (encF f n).length ∧ (encF f n).length ≤ f + 1 := by
 induction f generalizing n with
 | zero => simp [encF]
 | succ f ih =>
  simp only [encF]
  split
  ·simp
  ·have := ih (n / 128)
   simp only [List.length_cons]
   omega
theorem enc_len (n : Nat) : 1 ≤ (enc n).length ∧ (enc n).length ≤ 9 := encF_len 8 n
theorem toNat_ofNat (n : Nat) (h : n < 256) : (UInt8.ofNat n).toNat = n := by
 rw [UInt8.toNat_ofNat']; omega
theorem ofNat_ne (n : Nat) (h : n < 256) (h0 : 0 < n) : UInt8.ofNat n ≠ 0 := by
 intro e
 have : (UInt8.ofNat n).toNat = 0 := by rw [e]; rfl
 rw [toNat_ofNat n h] at this
 omega
theorem dec_enc (f i acc m : Nat) (s : List UInt8) (hm : m < 128 ^ (f + 1)) (h0 : 0 < i → 0 < m) :
  dec (f + 1) i acc (encF f m ++ s) = (acc + m * 128 ^ i, i + (encF f m).length, 0) := by
 induction f generalizing i acc m with
 | zero =>
  have hm' : m < 128 := by simpa using hm
  have ht := toNat_ofNat m (by omega)
  have hz : ¬ (UInt8.ofNat m = 0 ∧ 0 < i) := by
   rintro ⟨a, b⟩
   exact ofNat_ne m (by omega) (h0 b) a
  simp only [encF, List.cons_append, List.nil_append, dec, if_neg hz, ht, if_pos hm', List.length_cons, List.length_nil, Nat.mod_eq_of_lt hm']
 | succ f ih =>
  simp only [encF]
  by_cases hs : m ≤ 127
  ·rw [if_pos hs]
   have hm' : m < 128 := by omega
   have ht := toNat_ofNat m (by omega)
   have hz : ¬ (UInt8.ofNat m = 0 ∧ 0 < i) := by
    rintro ⟨a, b⟩
    exact ofNat_ne m (by omega) (h0 b) a
   simp only [List.cons_append, List.nil_append, dec, if_neg hz, ht, if_pos hm', List.length_cons, List.length_nil, Nat.mod_eq_of_lt hm']
  ·rw [if_neg hs]
   have ht := toNat_ofNat (m % 128 + 128) (by omega)
   have hz : ¬ (UInt8.ofNat (m % 128 + 128) = 0 ∧ 0 < i) := by
    rintro ⟨a, b⟩
    exact ofNat_ne (m % 128 + 128) (by omega) (by omega) a
   have hd : m / 128 < 128 ^ (f + 1) := by
    rw [Nat.div_lt_iff_lt_mul (by omega), ← Nat.pow_succ]; exact hm
   have := ih (i + 1) (acc + (m % 128) * 128 ^ i) (m / 128) hd (fun _ => by omega)
   have e1 : (m % 128 + 128) % 128 = m % 128 := by omega
   have e2 : acc + m % 128 * 128 ^ i + m / 128 * 128 ^ (i + 1) = acc + m * 128 ^ i := by
    rw [Nat.pow_succ, Nat.mul_comm (128 ^ i) 128, ← Nat.mul_assoc, Nat.add_assoc, ← Nat.add_mul]
    congr 2
    omega
   rw [List.cons_append, dec, if_neg hz, ht, if_neg (by omega), e1, this, e2]
   simp only [List.length_cons]
   congr 2
   omega
theorem dec_only (f i acc : Nat) (s : List UInt8) (n k : Nat) (h : dec (f + 1) i acc s = (n, k, 0)) :
  ∃ m, n = acc + m * 128 ^ i ∧ m < 128 ^ (f + 1) ∧ k = i + (encF f m).length ∧ s.take (encF f m).length = encF f m := by
 induction f generalizing i acc s n k with
 | zero =>
  cases s with
  | nil => simp [dec] at h
  | cons b rest =>
   simp only [dec] at h
   split at h
   ·simp at h
   ·split at h
    ·rename_i hb
     simp only [Prod.mk.injEq, and_true] at h
     refine ⟨b.toNat, ?_, by simpa using hb, ?_, ?_⟩
     ·rw [← h.1, Nat.mod_eq_of_lt hb]
     ·simp [encF, h.2]
     ·simp [encF]
    ·simp at h
 | succ f ih =>
  cases s with
  | nil => simp [dec] at h
  | cons b rest =>
   rw [dec] at h
   split at h
   ·simp at h
   ·rename_i hz
    split at h
    ·rename_i hb
     simp only [Prod.mk.injEq, and_true] at h
     have hpos : 0 < 128 ^ (f + 1) := Nat.pow_pos (by omega)
     refine ⟨b.toNat, ?_, ?_, ?_, ?_⟩
     ·rw [← h.1, Nat.mod_eq_of_lt hb]
     ·rw [Nat.pow_succ]; omega
     ·rw [encF, if_pos (by omega)]; simp [h.2]
     ·rw [encF, if_pos (by omega)]; simp
    ·rename_i hb
     obtain ⟨m, h1, h2, h3, h4⟩ := ih _ _ _ _ _ h
     have hlt : b.toNat < 256 := b.toNat_lt
     have hm0 : 0 < m := by
      rcases Nat.eq_zero_or_pos m with h0 | h0
      ·subst h0
       exfalso
       have he : encF f 0 = [0] := by cases f <;> rfl
       rw [he] at h4
       cases rest with
       | nil => simp at h4
       | cons c r =>
        simp at h4
        subst h4
        cases f <;> simp [dec] at h
      ·exact h0
     have e1 : (b.toNat % 128 + m * 128) / 128 = m := by omega
     have e2 : (b.toNat % 128 + m * 128) % 128 = b.toNat % 128 := by omega
     have e3 : UInt8.ofNat (b.toNat % 128 + 128) = b := by
      have : b.toNat % 128 + 128 = b.toNat := by omega
      rw [this]; simp
     refine ⟨b.toNat % 128 + m * 128, ?_, ?_, ?_, ?_⟩
     ·rw [h1, Nat.pow_succ, Nat.mul_comm (128 ^ i) 128, ← Nat.mul_assoc, Nat.add_assoc, ← Nat.add_mul]
     ·rw [Nat.pow_succ]; omega
     ·rw [encF, if_neg (by omega), e1, h3]; simp only [List.length_cons]; omega
     ·rw [encF, if_neg (by omega), e1, e2, e3]; simp [h4]
theorem first_enc (n : Nat) (s : List UInt8) (h : n < 9223372036854775808) : first (enc n ++ s) = (n, (enc n).length, 0) := by
 have := dec_enc 8 0 0 n s (by simpa using h) (by omega)
 simpa [first, enc] using this
theorem first_only (s : List UInt8) (n k : Nat) (h : first s = (n, k, 0)) : n < 9223372036854775808 ∧ k = (enc n).length ∧ s.take k = enc n := by
 obtain ⟨m, h1, h2, h3, h4⟩ := dec_only 8 0 0 s n k h
 have e : n = m := by simpa using h1
 subst e
 refine ⟨by simpa using h2, by simpa [enc] using h3, ?_⟩
 have : k = (encF 8 n).length := by simpa using h3
 rw [this]; exact h4
theorem dec_fits (f i acc : Nat) (s : List UInt8) (h : acc < 128 ^ i) : (dec f i acc s).1 < 128 ^ (i + f) ∧ (dec f i acc s).2.1 ≤ i + s.length ∧ ((dec f i acc s).2.2 = 0 ∨ ((dec f i acc s).1 = 0 ∧ (dec f i acc s).2.1 = 0)) ∧ ((dec f i acc s).2.2 = 0 ∨ (dec f i acc s).2.2 = 5 ∨ (dec f i acc s).2.2 = 6) := by
 have hp : ∀ j, 0 < 128 ^ j := fun j => Nat.pow_pos (by omega)
 induction f generalizing i acc s with
 | zero => simp [dec, hp]
 | succ f ih =>
  cases s with
  | nil => simp [dec, hp]
  | cons b rest =>
   rw [dec]
   have hstep : acc + b.toNat % 128 * 128 ^ i < 128 ^ (i + 1) := by
    have h1 : b.toNat % 128 * 128 ^ i ≤ 127 * 128 ^ i := Nat.mul_le_mul_right _ (by omega)
    rw [Nat.pow_succ]; omega
   split
   ·simp [hp]
   ·split
    ·refine ⟨Nat.lt_of_lt_of_le hstep (Nat.pow_le_pow_right (by omega) (by omega)), by simp only [List.length_cons]; omega, Or.inl rfl, Or.inl rfl⟩
    ·have := ih (i + 1) _ rest hstep
     simp only [List.length_cons]
     refine ⟨by rw [show i + (f + 1) = i + 1 + f from by omega]; exact this.1, by omega, this.2.2⟩
theorem first_fits (s : List UInt8) : (first s).1 < 9223372036854775808 ∧ (first s).2.1 ≤ s.length ∧ ((first s).2.2 = 0 ∨ ((first s).1 = 0 ∧ (first s).2.1 = 0)) ∧ ((first s).2.2 = 0 ∨ (first s).2.2 = 5 ∨ (first s).2.2 = 6) := by
 have := dec_fits 9 0 0 s (by simp)
 simpa [first] using this
theorem or_low (acc c i : Nat) (h : acc < 128 ^ i) : acc ||| (c <<< (7 * i)) = acc + c * 128 ^ i := by
 have e : (128 : Nat) ^ i = 2 ^ (7 * i) := by rw [Nat.pow_mul]
 rw [Nat.or_comm, ← Nat.shiftLeft_add_eq_or_of_lt (by rw [← e]; exact h), Nat.shiftLeft_eq, e]
 omega
theorem and_low (c : Nat) : c &&& 127 = c % 128 := Nat.and_two_pow_sub_one_eq_mod c 7
theorem and_high (c : Nat) (h : c < 256) : c &&& 128 = if c < 128 then 0 else 128 := by
 have : ∀ x : Fin 256, x.val &&& 128 = if x.val < 128 then 0 else 128 := by decide +kernel
 exact this ⟨c, h⟩
end Go.Proofs.YtpafpegcodempaaGreat.Leb
namespace Go.Proofs.YtpafpegcodempaaGreat
open Go.RowKit
theorem cut_data (r : ByteArray) (k : Nat) : (r.extract k r.size).data.toList = r.data.toList.drop k := by
 rw [Lib.extract_data]
 exact List.take_of_length_le (by rw [List.length_drop, Lib.size_eq]; exact Nat.le_refl _)
theorem bytes_ext {a b : ByteArray} (h : a.data.toList = b.data.toList) : a = b := ByteArray.ext (Array.toList_inj.1 h)
theorem cut_cut (r : ByteArray) (k j : Nat) : (r.extract k r.size).extract j (r.extract k r.size).size = r.extract (k + j) r.size :=
 bytes_ext (by rw [cut_data, cut_data, cut_data, List.drop_drop])
theorem at_data (r : ByteArray) (h : 0 < r.size) {c : UInt8} (hc : r.data.toList[0]? = some c) : r[0]'h = c := by
 obtain ⟨hl, he⟩ := List.getElem?_eq_some_iff.1 hc
 rw [← he, Array.getElem_toList]
 rfl
theorem mk_size (l : List UInt8) : (⟨l.toArray⟩ : ByteArray).size = l.length := by rw [Lib.size_eq]
open Go.RowKit
def NumPost (w : World) (b : Nat) (r : ByteArray) (e0 : Int) (e : Ending) (w' : World) : Prop :=
 ∃ j, e = .returned (.tuple #[.int .i64 (Leb.first r.data.toList).1, .int .i64 (Leb.first r.data.toList).2.2]) ∧ Rd w' b (r.extract j r.size) e0 ∧ w.grownBy w' (some b) ∧
  ((Leb.first r.data.toList).2.2 = 0 → j = (Leb.first r.data.toList).2.1)
def NumRel (w : World) (b : Nat) (r : ByteArray) (e0 : Int) (k acc : Nat) (wr : World) : Prop :=
 k ≤ r.size ∧ Rd wr b (r.extract k r.size) e0 ∧ w.grownBy wr (some b) ∧ acc < 128 ^ k ∧ Leb.dec (9 - k) k acc (r.data.toList.drop k) = Leb.first r.data.toList
theorem or64 (acc d k : Nat) (hk : k < 9) (ha : acc < 128 ^ k) (hd : d < 128) :
  bits .or .i64 (acc : Int) (wrap64 ((d : Int) * 2 ^ (7 * k))) = ((acc + d * 128 ^ k : Nat) : Int) := by
 have e : (128 : Nat) ^ k = 2 ^ (7 * k) := by rw [Nat.pow_mul]
 have hpow : (128 : Nat) ^ (k + 1) ≤ 128 ^ 9 := Nat.pow_le_pow_right (by omega) (by omega)
 have h9 : (128 : Nat) ^ 9 = 9223372036854775808 := by decide
 have hs : (128 : Nat) ^ (k + 1) = 128 ^ k * 128 := Nat.pow_succ _ _
 have hdm : d * 128 ^ k ≤ 127 * 128 ^ k := Nat.mul_le_mul_right _ (by omega)
 have hb : d * 128 ^ k < 9223372036854775808 := by omega
 have hcast : ((d : Int) * 2 ^ (7 * k)) = ((d * 128 ^ k : Nat) : Int) := by rw [e]; push_cast; rfl
 have hor : acc ||| (d * 128 ^ k) = acc + d * 128 ^ k := by
  have := Leb.or_low acc d k ha
  rw [Nat.shiftLeft_eq, ← e] at this
  exact this
 have h1 : (BitVec.ofInt 64 (acc : Int)).toNat = acc := by
  rw [BitVec.ofInt_natCast, BitVec.toNat_ofNat]; exact Nat.mod_eq_of_lt (by omega)
 have h2 : (BitVec.ofInt 64 ((d * 128 ^ k : Nat) : Int)).toNat = d * 128 ^ k := by
  rw [BitVec.ofInt_natCast, BitVec.toNat_ofNat]; exact Nat.mod_eq_of_lt (by omega)
 rw [hcast, IntWalk.wrap64_in _ ⟨by omega, by omega⟩]
 show IntKind.i64.wrap ((BitVec.ofInt 64 (acc : Int) ||| BitVec.ofInt 64 ((d * 128 ^ k : Nat) : Int)).toNat : Int) = _
 rw [BitVec.toNat_or, h1, h2, hor]
 exact IntWalk.i64_in _ ⟨by omega, by omega⟩
theorem and127 (x : Nat) (h : x < 256) : bits .and .u8 (x : Int) 127 = ((x % 128 : Nat) : Int) := by
 have := u8_and_nat x 127 h (by omega)
 rw [Leb.and_low] at this
 exact this
theorem and128 (x : Nat) (h : x < 256) : bits .and .u8 (x : Int) 128 = ((if x < 128 then 0 else 128 : Nat) : Int) := by
 have := u8_and_nat x 128 h (by omega)
 rw [Leb.and_high x h] at this
 exact this
theorem take_at {w : World} {b k : Nat} {r : ByteArray} {e0 : Int} {c : UInt8} (h : Rd w b (r.extract k r.size) e0) (hc : r.data.toList[k]? = some c) (hk : k < r.size) (hm : r.size ≤ 281474976710656) :
  Calls Tryz.prog 241 #[.pointer (some ⟨b, 0, none⟩)] w fun e w' =>
   e = .returned (.tuple #[.int .u8 c.toNat, .bool true]) ∧ Rd w' b (r.extract (k + 1) r.size) e0 ∧ w.grownBy w' (some b) := by
 have hs : (r.extract k r.size).size = r.size - k := by simp
 refine (take_some h (by omega) (by omega)).mono ?_
 rintro e w' ⟨rfl, h1, h2⟩
 rw [at_data (r.extract k r.size) (by omega) (c := c) (by rw [cut_data, List.getElem?_drop]; exact hc)]
 rw [cut_cut] at h1
 exact ⟨rfl, h1, h2⟩
theorem number_any {w : World} {b : Nat} {r : ByteArray} {e0 : Int} (h : Rd w b r e0) (hm : r.size ≤ 281474976710656) :
  Calls Tryz.prog 240 #[.func (.func 241) #[.pointer (some ⟨b, 0, none⟩)] #[]] w (NumPost w b r e0) := by
 have h0 : NumRel w b r e0 0 0 w := ⟨Nat.zero_le _, by rw [show r.extract 0 r.size = r from by simp]; exact h, gb_refl _ _, by simp, by rw [List.drop_zero]; rfl⟩
 clear h
 go_enter Tryz.func240, Tryz.ntmps240
 go_wp2_with fail
 go_loopw [4, 8] (fun n i wr => ∃ k acc : Nat, k ≤ 9 ∧ i = .int .i64 k ∧ n = .int .i64 acc ∧ NumRel w b r e0 k acc wr) (fun _ i _ => (9 - intOf i).toNat)
 case atStart => exact ⟨0, 0, by omega, rfl, rfl, h0⟩
 case round =>
  obtain ⟨k, acc, hk, rfl, rfl, hrel⟩ := hrel
  by_cases h9 : k < 9
  ·obtain ⟨hkr, hrd, hgb, hacc, hdec⟩ := hrel
   have Hdec := Lib.hid hdec
   clear hdec
   by_cases hlt : k < r.size
   ·obtain ⟨c, hc⟩ : ∃ c : UInt8, r.data.toList[k]? = some c := ⟨r.data.toList[k]'(by rw [← Lib.size_eq]; exact hlt), List.getElem?_eq_getElem _⟩
    have hdrop : r.data.toList.drop k = c :: r.data.toList.drop (k + 1) := by
     obtain ⟨hl, he⟩ := List.getElem?_eq_some_iff.1 hc
     rw [List.drop_eq_getElem_cons hl, he]
    have hc256 := c.toNat_lt
    obtain ⟨f, hf⟩ : ∃ f, 9 - k = f + 1 := ⟨8 - k, by omega⟩
    have hdec' : Leb.first r.data.toList = if c = 0 ∧ 0 < k then (0, 0, 6) else if c.toNat < 128 then (acc + c.toNat % 128 * 128 ^ k, k + 1, 0) else Leb.dec (9 - (k + 1)) (k + 1) (acc + c.toNat % 128 * 128 ^ k) (r.data.toList.drop (k + 1)) := by
     rw [← Hdec.out, hdrop, hf, Leb.dec]
     have : 9 - (k + 1) = f := by omega
     rw [this]
    have Hdec2 := Lib.hid hdec'
    clear hdec' hdrop hf
    obtain ⟨x, hx⟩ : ∃ x : Nat, x = c.toNat := ⟨_, rfl⟩
    have hx256 : x < 256 := by omega
    have htk : Calls Tryz.prog 241 #[.pointer (some ⟨b, 0, none⟩)] wr fun e w' =>
      e = .returned (.tuple #[.int .u8 x, .bool true]) ∧ Rd w' b (r.extract (k + 1) r.size) e0 ∧ wr.grownBy w' (some b) := by rw [hx]; exact take_at hrd hc hlt hm
    have Htk := Lib.hid htk
    have Hx := Lib.hid hx
    obtain ⟨d, hd⟩ : ∃ d : Nat, d = x % 128 := ⟨_, rfl⟩
    have hd1 : d < 128 := by omega
    obtain ⟨n, hn⟩ : ∃ n : Nat, n = acc + d * 128 ^ k := ⟨_, rfl⟩
    have ha1 : bits .and .u8 (x : Int) 127 = (d : Int) := by rw [and127 x hx256, hd]
    have ho1 : bits .or .i64 (acc : Int) (wrap64 ((d : Int) * 2 ^ (7 * k))) = (n : Int) := by rw [or64 acc d k h9 hacc hd1, hn]
    have hn128 : n < 128 ^ (k + 1) := by
     rw [hn, Nat.pow_succ]
     have : d * 128 ^ k ≤ 127 * 128 ^ k := Nat.mul_le_mul_right _ (by omega)
     omega
    have Hn := Lib.hid hn
    have Hd := Lib.hid hd
    have Hacc := Lib.hid hacc
    have Hn128 := Lib.hid hn128
    have hne : ((0 : Int) == 0) = true := rfl
    clear hd hx htk hc hrd hn hacc hn128
    by_cases hx0 : x = 0 ∧ 0 < k
    ·obtain ⟨h1, h2⟩ := hx0
     have hb0 : ((x : Int) == 0) = true := by rw [h1]; rfl
     have hc0 : c = 0 := by
      have := Hx.out
      rw [h1] at this
      exact UInt8.toNat_inj.1 this.symm
     have hfin : Hid (Leb.first r.data.toList = (0, 0, 6)) := by rw [Hdec2.out, if_pos ⟨hc0, h2⟩]; rfl
     clear h1 ha1 ho1
     go_wp2_with (go_at_call 241; refine (Htk.out).mono ?_; rintro e w' ⟨rfl, hrd', hgb'⟩)
     go_ret2
     exact ⟨k + 1, by rw [hfin.out]; rfl, hrd', gb_trans hgb hgb', by rw [hfin.out]; simp⟩
    ·by_cases hx1 : x < 128
     ·have ha2 : bits .and .u8 (x : Int) 128 = 0 := by rw [and128 x hx256, if_pos hx1]; rfl
      have hcz : ¬ (c = 0 ∧ 0 < k) := by
       rintro ⟨h1, h2⟩
       exact hx0 ⟨by rw [Hx.out, h1]; rfl, h2⟩
      have hfin : Hid (Leb.first r.data.toList = (n, k + 1, 0)) := by
       have e := Hn.out
       rw [Hd.out, Hx.out] at e
       rw [Hdec2.out, if_neg hcz, if_pos (by rw [← Hx.out]; exact hx1), ← e]; rfl
      by_cases hxz : x = 0
      ·have hb0 : ((x : Int) == 0) = true := by rw [hxz]; rfl
       have hk0 : ¬ 0 < k := fun h => hx0 ⟨hxz, h⟩
       clear hx0 hcz hxz hx1
       go_wp2_with (go_at_call 241; refine (Htk.out).mono ?_; rintro e w' ⟨rfl, hrd', hgb'⟩)
       go_ret2
       exact ⟨k + 1, by rw [hfin.out]; rfl, hrd', gb_trans hgb hgb', by rw [hfin.out]; simp⟩
      ·have hb0 : ((x : Int) == 0) = false := by simp; omega
       clear hx0 hcz hxz hx1
       go_wp2_with (go_at_call 241; refine (Htk.out).mono ?_; rintro e w' ⟨rfl, hrd', hgb'⟩)
       go_ret2
       exact ⟨k + 1, by rw [hfin.out]; rfl, hrd', gb_trans hgb hgb', by rw [hfin.out]; simp⟩
     ·have ha2 : bits .and .u8 (x : Int) 128 = 128 := by rw [and128 x hx256, if_neg hx1]; rfl
      have hcz : ¬ (c = 0 ∧ 0 < k) := by
       rintro ⟨h1, h2⟩
       exact hx0 ⟨by rw [Hx.out, h1]; rfl, h2⟩
      have hfin : Hid (Leb.dec (9 - (k + 1)) (k + 1) n (r.data.toList.drop (k + 1)) = Leb.first r.data.toList) := by
       have e := Hn.out
       rw [Hd.out, Hx.out] at e
       rw [Hdec2.out, if_neg hcz, if_neg (by rw [← Hx.out]; exact hx1), ← e]; rfl
      have hb0 : ((x : Int) == 0) = false := by simp; omega
      clear hx0 hcz hx1
      go_wp2_with (go_at_call 241; refine (Htk.out).mono ?_; rintro e w' ⟨rfl, hrd', hgb'⟩)
      go_roundw
      case rel => exact ⟨k + 1, n, by omega, by go_num, rfl, by omega, hrd', gb_trans hgb hgb', Hn128.out, hfin.out⟩
      case measure => simp [intOf]; omega
   ·have hs0 : (r.extract k r.size).size = 0 := by simp; omega
    have hfin : Hid (Leb.first r.data.toList = (0, 0, 5)) := by
     obtain ⟨f, hf⟩ : ∃ f, 9 - k = f + 1 := ⟨8 - k, by omega⟩
     have : r.data.toList.drop k = [] := List.drop_eq_nil_of_le (by rw [← Lib.size_eq]; omega)
     rw [← Hdec.out, this, hf]; rfl
    have Hs0 := Lib.hid hs0
    clear hs0 hacc
    go_wp2_with (go_at_call 241; refine (take_none hrd Hs0.out).mono ?_; rintro e w' ⟨rfl, rfl⟩)
    go_ret2
    exact ⟨k, by rw [hfin.out]; rfl, hrd, hgb, by rw [hfin.out]; simp⟩
  ·obtain ⟨hkr, hrd, hgb, hacc, hdec⟩ := hrel
   obtain rfl : k = 9 := by omega
   have hfin : Hid (Leb.first r.data.toList = (0, 0, 6)) := by rw [← hdec]; rfl
   clear hdec hacc
   go_wp2_with fail
   go_ret2
   exact ⟨9, by rw [hfin.out]; rfl, hrd, hgb, by rw [hfin.out]; simp⟩
open Go.RowKit
def RdL (w : World) (b : Nat) (l : List UInt8) (e : Int) : Prop := Rd w b ⟨l.toArray⟩ e
theorem ba_of (r : ByteArray) : (⟨r.data.toList.toArray⟩ : ByteArray) = r := bytes_ext rfl
theorem rd_list {w : World} {b : Nat} {r : ByteArray} {e : Int} {l : List UInt8} (h : Rd w b r e) (hl : r.data.toList = l) : RdL w b l e := by
 subst hl
 unfold RdL
 rw [ba_of]
 exact h
def stepN (l : List UInt8) (e : Int) : Nat × List UInt8 × Int :=
 if e = 0 then (if (Leb.first l).2.2 = 0 then ((Leb.first l).1, l.drop (Leb.first l).2.1, 0) else (0, [], (Leb.first l).2.2)) else (0, l, e)
def stepT (l : List UInt8) (e : Int) : List UInt8 × List UInt8 × Int :=
 if e = 0 then (if (Leb.second l).2.2 = 0 then ((Leb.second l).1, l.drop (Leb.second l).2.1, 0) else ([], [], (Leb.second l).2.2)) else ([], l, e)
theorem over_any (s : ByteArray) (w : World) :
  Calls Tryz.prog 60 #[.string s] w fun e w' => e = .returned (.pointer (some ⟨w.heap.size, 0, none⟩)) ∧ RdL w' w.heap.size s.data.toList 0 ∧ Below w.heap.size w w' := by
 have k := Lib.hid (Row.made w 190 #[.string s, .int .i64 0])
 go_enter Tryz.func60, Tryz.ntmps60
 go_wp2
 go_ret
 exact ⟨rfl, rd_list k.out rfl, (Below.refl _ _).alloc (Nat.le_refl _) _⟩
def NPost (w : World) (b : Nat) (n : Nat) (l : List UInt8) (e0 : Int) (e : Ending) (w' : World) : Prop :=
 e = .returned (.int .i64 n) ∧ RdL w' b l e0 ∧ w.grownBy w' (some b)
theorem n_any {w : World} {b : Nat} {l : List UInt8} {e0 : Int} (h : RdL w b l e0) (hm : l.length ≤ 281474976710656) :
  Calls Tryz.prog 143 #[.pointer (some ⟨b, 0, none⟩)] w (NPost w b (stepN l e0).1 (stepN l e0).2.1 (stepN l e0).2.2) := by
 by_cases he : e0 = 0
 ·subst he
  have hz : ((0 : Int) != 0) = false := rfl
  have hnum : Calls Tryz.prog 240 #[.func (.func 241) #[.pointer (some ⟨b, 0, none⟩)] #[]] w (NumPost w b ⟨l.toArray⟩ 0) := number_any h (by rw [mk_size]; exact hm)
  have herr := err_any h
  have Herr := Lib.hid herr
  by_cases hf : (Leb.first l).2.2 = 0
  ·have hs : stepN l 0 = ((Leb.first l).1, l.drop (Leb.first l).2.1, 0) := by simp [stepN, hf]
   have hnum2 : Calls Tryz.prog 240 #[.func (.func 241) #[.pointer (some ⟨b, 0, none⟩)] #[]] w
     fun e w' => e = .returned (.tuple #[.int .i64 (Leb.first l).1, .int .i64 0]) ∧ RdL w' b (l.drop (Leb.first l).2.1) 0 ∧ w.grownBy w' (some b) := by
    refine hnum.mono ?_
    rintro e w' ⟨j, rfl, h1, h2, h3⟩
    have hj : j = (Leb.first l).2.1 := h3 hf
    refine ⟨?_, rd_list h1 ?_, h2⟩
    ·show Ending.returned (.tuple #[.int .i64 (Leb.first l).1, .int .i64 (Leb.first l).2.2]) = _
     rw [hf]
    ·rw [cut_data, hj]
   rw [hs]
   have Hnum := Lib.hid hnum2
   generalize (Leb.first l).1 = n at *
   generalize l.drop (Leb.first l).2.1 = l1 at *
   clear hnum hnum2 hf hs h herr
   go_enter Tryz.func143, Tryz.ntmps143
   go_wp2_with (first
    | (go_at_call 140; refine (Herr.out).mono ?_; rintro e w' ⟨rfl, rfl⟩)
    | (go_at_call 240; refine (Hnum.out).mono ?_; rintro e w' ⟨rfl, h1, h2⟩))
   go_ret
   exact ⟨rfl, h1, h2⟩
  ·have hs : stepN l 0 = (0, [], (Leb.first l).2.2) := by simp [stepN, hf]
   have hn0 : (Leb.first l).1 = 0 := by
    rcases (Leb.first_fits l).2.2.1 with h1 | h1
    ·exact absurd h1 hf
    ·exact h1.1
   have hnum2 : Calls Tryz.prog 240 #[.func (.func 241) #[.pointer (some ⟨b, 0, none⟩)] #[]] w
     fun e w' => e = .returned (.tuple #[.int .i64 0, .int .i64 (Leb.first l).2.2]) ∧ (∃ r, Rd w' b r 0) ∧ w.grownBy w' (some b) := by
    refine hnum.mono ?_
    rintro e w' ⟨j, rfl, h1, h2, _⟩
    refine ⟨?_, ⟨_, h1⟩, h2⟩
    show Ending.returned (.tuple #[.int .i64 (Leb.first l).1, .int .i64 (Leb.first l).2.2]) = _
    rw [hn0]; rfl
   rw [hs]
   have Hnum := Lib.hid hnum2
   have hne : ((Leb.first l).2.2 != 0) = true := by simp [hf]
   generalize (Leb.first l).2.2 = x at *
   clear hnum hnum2 hf hs h herr hn0
   go_enter Tryz.func143, Tryz.ntmps143
   go_wp2_with (first
    | (go_at_call 140; refine (Herr.out).mono ?_; rintro e w' ⟨rfl, rfl⟩)
    | (go_at_call 240; refine (Hnum.out).mono ?_; rintro e w' ⟨rfl, ⟨r1, h1⟩, h2⟩)
    | (go_at_call 238; refine (fail_any h1 _).mono ?_; rintro e w' ⟨rfl, h3, h4⟩))
   go_ret
   exact ⟨rfl, rd_list h3 rfl, gb_trans h2 h4⟩
 ·have hs : stepN l e0 = (0, l, e0) := by simp [stepN, he]
  rw [hs]
  have hne : (e0 != 0) = true := by simp [he]
  clear he hs
  go_enter Tryz.func143, Tryz.ntmps143
  go_wp2_with (first | (go_at_call 140; refine (err_any h).mono ?_; rintro e w' ⟨rfl, rfl⟩))
  go_ret
  exact ⟨rfl, h, gb_refl _ _⟩
open Go.RowKit
theorem field_n (n : Int) (w : World) :
  Calls Tryz.prog 121 #[.int .i64 n] w fun e w' => e = .returned (.agg #[.int .i64 n, .string ⟨#[]⟩, .bool false]) ∧ Below w.heap.size w w' := by
 go_enter Tryz.func121, Tryz.ntmps121
 go_wp2
 refine bodyPost_ret (v := .agg #[.int .i64 n, .string ⟨#[]⟩, .bool false]) (by simp [results, Tryz.results121, go_sem]) rfl ⟨rfl, (Below.refl _ _).alloc (Nat.le_refl _) _⟩
theorem field_t (s : ByteArray) (w : World) :
  Calls Tryz.prog 173 #[.string s] w fun e w' => e = .returned (.agg #[.int .i64 0, .string s, .bool true]) ∧ Below w.heap.size w w' := by
 go_enter Tryz.func173, Tryz.ntmps173
 go_wp2
 refine bodyPost_ret (v := .agg #[.int .i64 0, .string s, .bool true]) (by simp [results, Tryz.results173, go_sem]) rfl ⟨rfl, (Below.refl _ _).alloc (Nat.le_refl _) _⟩
theorem parts_n (n : Int) (s : ByteArray) (w : World) :
  Calls Tryz.prog 213 #[.agg #[.int .i64 n, .string s, .bool false]] w fun e w' => e = .returned (.tuple #[.int .i64 n, .string ⟨#[]⟩]) ∧ Below w.heap.size w w' := by
 go_enter Tryz.func213, Tryz.ntmps213
 go_wp2
 go_ret2
 exact ⟨rfl, by repeat (first | exact Below.refl _ _ | apply Below.drew | refine Below.alloc ?_ (Nat.le_refl _) _)⟩
theorem parts_t (n : Int) (s : ByteArray) (w : World) :
  Calls Tryz.prog 213 #[.agg #[.int .i64 n, .string s, .bool true]] w fun e w' => e = .returned (.tuple #[.int .i64 s.size, .string s]) ∧ Below w.heap.size w w' := by
 go_enter Tryz.func213, Tryz.ntmps213
 go_wp2
 go_quiet (fail)
 go_wp2
 go_ret2
 exact ⟨rfl, ⟨rfl, rfl, rfl, by simp, fun k hk => Below.heap_alloc _ _ _ hk⟩⟩
def Spares (t : TypeId) (w w' : World) : Prop := ∀ (b : Nat) (u : TypeId) (cs : Array Value), u ≠ t → Row w b u cs → Row w' b u cs
theorem Spares.same (t : TypeId) (w : World) : Spares t w w := fun _ _ _ _ h => h
theorem Spares.then_ {t : TypeId} {a b c : World} (h : Spares t a b) (k : Spares t b c) : Spares t a c := fun i u cs hu hr => k i u cs hu (h i u cs hu hr)
theorem Spares.new {t : TypeId} {a w : World} (h : Spares t a w) (o : Obj) : Spares t a (w.alloc o) := fun i u cs hu hr => (h i u cs hu hr).behindNew o
theorem Spares.below {t : TypeId} {w w' : World} (h : Below w.heap.size w w') : Spares t w w' := fun _ _ _ _ hr => hr.below h hr.inHeap
theorem own_other {w : World} {base : Nat} {t : TypeId} {size n : Nat} {v : Value} {xs : List Value} (h : w.ownsRow base t size v n xs) {b : Nat} {u : TypeId} {cs : Array Value} (hr : Row w b u cs) (hu : u ≠ t) : v.ownBlock ≠ some b := by
 rcases h.2 with ⟨hv, _⟩ | ⟨g, cap, cur, hv, _, hh, _⟩
 ·rw [hv]; simp [Value.ownBlock]
 ·rw [hv]
  intro he
  have e : g = b := by simpa [Value.ownBlock] using he
  rw [e] at hh
  have h2 : w.heap[b]? = some (Obj.cells cs u (0, 0)) := hr
  rw [h2] at hh
  injection hh with hh
  injection hh with _ ht
  exact hu ht
theorem Spares.grown {t : TypeId} {w w' : World} {base size n : Nat} {v : Value} {xs : List Value} (h : w.ownsRow base t size v n xs) (hg : w.grownBy w' v.ownBlock) : Spares t w w' :=
 fun _ _ _ hu hr => hr.grown hg (own_other h hr hu)
theorem own_from {w : World} {base t size n : Nat} {v : Value} {xs : List Value} (h : w.ownsRow base t size v n xs) : ∀ k, v.ownBlock = some k → base ≤ k := by
 intro k hk
 rcases h.2 with ⟨hv, _⟩ | ⟨g, cap, cur, hv, hb, _⟩
 ·rw [hv] at hk; simp [Value.ownBlock] at hk
 ·rw [hv] at hk
  have : g = k := by simpa [Value.ownBlock] using hk
  omega
def LaidPost (w : World) (base : Nat) (n : Nat) (xs : List Value) (news : List UInt8) (e : Ending) (w' : World) : Prop :=
 ∃ v, e = .returned v ∧ w'.ownsRow base 5 1 v (n + news.length) (xs ++ Lib.byteCells news) ∧ Below base w w' ∧ Spares 5 w w'
def NumLoop (w : World) (base n : Nat) (xs : List Value) (l : List UInt8) (v : Value) (m : Nat) (wr : World) : Prop :=
 ∃ (f : Nat) (pre : List UInt8), m < 128 ^ (f + 1) ∧ f ≤ 8 ∧ pre ++ Leb.encF f m = l ∧ wr.ownsRow base 5 1 v (n + pre.length) (xs ++ Lib.byteCells pre) ∧ Below base w wr ∧ Spares 5 w wr
theorem num_more {w wr w2 : World} {base n m' : Nat} {xs : List Value} {l pre : List UInt8} {f : Nat} {v v' : Value} (hbig : 127 < m') (hf : m' < 128 ^ (f + 1)) (hf8 : f ≤ 8) (hpre : pre ++ Leb.encF f m' = l)
  (hB : base ≤ w.heap.size) (hbel : Below base w wr) (hsp : Spares 5 w wr) (hown : wr.ownsRow base 5 1 v (n + pre.length) (xs ++ Lib.byteCells pre)) {o : Obj}
  (hown' : w2.ownsRow base 5 1 v' (n + pre.length + 1) (xs ++ (Lib.byteCells pre ++ [Value.int .u8 ((m' % 128 + 128 : Nat) : Int)]))) (hg : (wr.alloc o).grownBy w2 v.ownBlock) :
  NumLoop w base n xs l v' (m' / 128) w2 := by
 cases f with
 | zero => simp at hf; omega
 | succ f =>
  have hs := hbel.size
  refine ⟨f, pre ++ [UInt8.ofNat (m' % 128 + 128)], ?_, by omega, ?_, ?_, ?_, ?_⟩
  ·rw [Nat.div_lt_iff_lt_mul (by omega), ← Nat.pow_succ]; exact hf
  ·rw [← hpre, Leb.encF, if_neg (by omega)]; simp
  ·have e : Lib.byteCells (pre ++ [UInt8.ofNat (m' % 128 + 128)]) = Lib.byteCells pre ++ [Value.int .u8 ((m' % 128 + 128 : Nat) : Int)] := by
    rw [Lib.byteCells_append]
    simp only [Lib.byteCells, List.map_cons, List.map_nil, Leb.toNat_ofNat (m' % 128 + 128) (by omega)]
   rw [e, List.length_append]
   exact hown'
  ·exact (hbel.alloc (by omega) o).grown hg (by simp; omega) (fun k hk => own_from hown k hk)
  ·exact (hsp.new o).then_ (Spares.grown (hown.alloc o) hg)
theorem num_done {w wr w2 : World} {base n m' : Nat} {xs : List Value} {l pre : List UInt8} {f : Nat} {v v' : Value} (hbig : ¬ 127 < m') (hpre : pre ++ Leb.encF f m' = l)
  (hB : base ≤ w.heap.size) (hbel : Below base w wr) (hsp : Spares 5 w wr) (hown : wr.ownsRow base 5 1 v (n + pre.length) (xs ++ Lib.byteCells pre)) {o : Obj}
  (hown' : w2.ownsRow base 5 1 v' (n + pre.length + 1) (xs ++ (Lib.byteCells pre ++ [Value.int .u8 (m' : Int)]))) (hg : (wr.alloc o).grownBy w2 v.ownBlock) :
  LaidPost w base n xs l (.returned v') w2 := by
 have hs := hbel.size
 have he : Leb.encF f m' = [UInt8.ofNat m'] := by
  cases f with
  | zero => rfl
  | succ f => rw [Leb.encF, if_pos (by omega)]
 rw [he] at hpre
 refine ⟨v', rfl, ?_, (hbel.alloc (by omega) o).grown hg (by simp; omega) (fun k hk => own_from hown k hk), (hsp.new o).then_ (Spares.grown (hown.alloc o) hg)⟩
 have e : Lib.byteCells l = Lib.byteCells pre ++ [Value.int .u8 (m' : Int)] := by
  rw [← hpre, Lib.byteCells_append]
  simp only [Lib.byteCells, List.map_cons, List.map_nil, Leb.toNat_ofNat m' (by omega)]
 rw [e, ← hpre, List.length_append]
 exact hown'
theorem byteInfo : (Tryz.prog.info? 5).map (fun i => (i.zero, i.size, i.bytes)) = some (some (.int .u8 0), 1, 1) := by kernel_rfl
theorem append_number {w : World} {base n m : Nat} {v : Value} {xs : List Value} (hown : w.ownsRow base 5 1 v n xs) (hn : n ≤ 65536) (hm : m < 9223372036854775808) (hB : base ≤ w.heap.size) :
  Calls Tryz.prog 303 #[v, .int .i64 m] w (LaidPost w base n xs (Leb.enc m)) := by
 obtain ⟨i0, hi, hz0, hz1, hz2⟩ := info_parts byteInfo
 have h0 : NumLoop w base n xs (Leb.enc m) v m w := ⟨8, [], by simpa using hm, by omega, rfl, by simpa [Lib.byteCells] using hown, Below.refl _ _, Spares.same _ _⟩
 clear hown
 go_enter Tryz.func303, Tryz.ntmps303
 go_wp2_with fail
 go_loopw [0, 1] (fun b x wr => ∃ m' : Nat, x = .int .i64 m' ∧ m' ≤ m ∧ NumLoop w base n xs (Leb.enc m) b m' wr) (fun _ x _ => (intOf x).toNat)
 case atStart => exact ⟨m, rfl, Nat.le_refl _, h0⟩
 case round =>
  obtain ⟨m', rfl, hm', f, pre, hf, hf8, hpre, hown, hbel, hsp⟩ := hrel
  have Hf := Lib.hid hf
  have Hpre := Lib.hid hpre
  have hpl : pre.length ≤ 9 := by
   have := (Leb.enc_len m).2
   rw [← hpre, List.length_append] at this
   omega
  have Hsz := Lib.hid hbel.size
  clear hf hpre
  by_cases hbig : 127 < m'
  ·obtain ⟨d, hd⟩ : ∃ d : Nat, d = m' % 128 := ⟨_, rfl⟩
   obtain ⟨g, hg⟩ : ∃ g : Nat, g = d + 128 := ⟨_, rfl⟩
   have hd1 : d < 128 := by omega
   have ha : bits .and .i64 (m' : Int) 127 = (d : Int) := by rw [i64_and127, hd]; rfl
   have ho : bits .or .u8 (d : Int) 128 = (g : Int) := by rw [u8_or128_right _ (by omega) (by omega), hg]; rfl
   have Hd := Lib.hid hd
   have Hg := Lib.hid hg
   clear hd hg
   go_wp2_with (at_builtin; refine wpList_append_own _ rfl _ _ 68 rfl base 5 i0 (.int .u8 0) 1 1 Tryz.underlying68 hi hz0 hz1 hz2 rfl (by decide) _ _ _ rfl (hown.alloc _) ⟨wr.heap.size, 0, none⟩ 1 1 [.int .u8 (g : Int)] rfl rfl ?c1 ?c2 ?c3 ?c4 ?c5 ?_)
   case c1 =>
    intro j u hj
    match j, hj with
    | 0, hj => simp at hj; subst hj; simp [Addr.add]
   case c2 => intro u hu; simp at hu; subst hu; rfl
   case c3 => unfold maxLen; omega
   case c4 => omega
   case c5 => have := Hsz.out; simp; omega
   intro v' w2 hown' hgrow' _
   have hstep := num_more hbig Hf.out hf8 Hpre.out hB hbel hsp hown (v' := v') (by rw [← Hd.out, ← Hg.out]; simpa using hown') hgrow'
   clear hown' hgrow' hown
   go_wp2
   go_roundw
   case rel => exact ⟨m' / 128, by simp, by omega, hstep⟩
   case measure => simp [intOf]; omega
  ·go_wp2_with (at_builtin; refine wpList_append_own _ rfl _ _ 68 rfl base 5 i0 (.int .u8 0) 1 1 Tryz.underlying68 hi hz0 hz1 hz2 rfl (by decide) _ _ _ rfl (hown.alloc _) ⟨wr.heap.size, 0, none⟩ 1 1 [.int .u8 (m' : Int)] rfl rfl ?d1 ?d2 ?d3 ?d4 ?d5 ?_)
   case d1 =>
    intro j u hj
    match j, hj with
    | 0, hj => simp at hj; subst hj; simp [Addr.add]
   case d2 => intro u hu; simp at hu; subst hu; rfl
   case d3 => unfold maxLen; omega
   case d4 => omega
   case d5 => have := Hsz.out; simp; omega
   intro v' w2 hown' hgrow' _
   have hstep := num_done hbig Hpre.out hB hbel hsp hown (v' := v') (by simpa using hown') hgrow'
   clear hown' hgrow' hown
   go_wp2
   go_ret
   exact hstep
end Go.Proofs.YtpafpegcodempaaGreat
