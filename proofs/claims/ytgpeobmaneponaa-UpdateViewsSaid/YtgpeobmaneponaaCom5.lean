import Derived.Test.YtgpeobmaneponaaCom2
import Derived.Test.YtgpeobmaneponaaCom4
import Derived.Test.YtgpeobmaneponaaCom1
import Derived.Deep.QuietTactic
import Derived.Deep.RegionLaw
import Derived.BigQuiet
set_option maxRecDepth 100000
set_option linter.unusedVariables false
set_option linter.unusedSimpArgs false
set_option maxHeartbeats 12800000
namespace Go.Proofs.Ytgpeobmaneponaa
open Go.RowKit
def boolV (b : Bool) : List Value := [.bool b]
abbrev Bools (w : World) (F : Nat → Prop) (v : Value) (l : List Bool) : Prop := Rws 1 boolV w F v l
theorem Bools.at {w : World} {F : Nat → Prop} {b o : Nat} {n cap : Nat} {l : List Bool} (h : Bools w F (.slice (some ⟨b, o, none⟩) n cap) l) {i : Nat} {x : Bool} (hx : l[i]? = some x) : w.cell? ⟨b, o + i, none⟩ = some (.bool x) := by
 obtain ⟨A, c, e, -, hat⟩ := h
 injection e with e1 e2 e3
 obtain ⟨b', o', e, -, -, hc⟩ := hat (by obtain ⟨hl, _⟩ := List.getElem?_eq_some_iff.1 hx; omega)
 rw [e] at e1
 injection e1 with e1
 injection e1 with e1 e2
 subst e1 e2
 have := hc i x hx 0 _ rfl
 rwa [Nat.mul_one, Nat.add_zero] at this
end Go.Proofs.Ytgpeobmaneponaa
namespace Go.Proofs.Ytgpeobmaneponaa.Sz
def Nm : Int → List Rg → Prop
 | _, [] => True
 | k, r :: l => k ≤ r.1 ∧ r.1 ≤ r.2 ∧ r.2 ≤ 200 ∧ Nm (r.2 + 2) l
def Nmt : Int → List Rg → Int → Prop
 | k, [], m => k ≤ m
 | k, r :: l, m => k ≤ r.1 ∧ r.1 ≤ r.2 ∧ r.2 ≤ 200 ∧ Nmt (r.2 + 2) l m
theorem Nm.mono : ∀ {l : List Rg} {j k : Int}, Nm k l → j ≤ k → Nm j l
 | [], _, _, _, _ => trivial
 | _ :: _, _, _, h, hj => ⟨by have := h.1; omega, h.2⟩
theorem Nmt.append : ∀ {l m : List Rg} {k j : Int}, Nmt k l j → Nm j m → Nm k (l ++ m)
 | [], _, _, _, h, hm => hm.mono h
 | _ :: _, _, _, _, h, hm => ⟨h.1, h.2.1, h.2.2.1, Nmt.append h.2.2.2 hm⟩
theorem Nm.snoc : ∀ {l : List Rg} {q : Rg} {k : Int}, Nm k (l ++ [q]) → Nmt k l q.1 ∧ q.1 ≤ q.2 ∧ q.2 ≤ 200
 | [], q, k, h => ⟨h.1, h.2.1, h.2.2.1⟩
 | r :: l, q, k, h => by
  obtain ⟨h1, h2, h3, h4⟩ := h
  have := Nm.snoc h4
  exact ⟨⟨h1, h2, h3, this.1⟩, this.2⟩
theorem Nm.bd : ∀ {l : List Rg} {k : Int}, Nm k l → ∀ r ∈ l, k ≤ r.1 ∧ r.1 ≤ r.2 ∧ r.2 ≤ 200
 | [], _, _, r, hr => by cases hr
 | q :: l, k, h, r, hr => by
  rcases List.mem_cons.1 hr with e | e
  ·rw [e]; exact ⟨h.1, h.2.1, h.2.2.1⟩
  ·have := Nm.bd h.2.2.2 r e
   have := h.1
   have := h.2.1
   omega
theorem Nm.before {l : List Rg} {k n : Int} (h : Nm k l) (hn : n < k) : holds l n = false := by
 unfold holds
 rw [Bool.and_eq_false_iff]
 right
 rw [List.any_eq_false]
 intro r hr
 have := h.bd r hr
 simp
 omega
theorem holds_append (a b : List Rg) (n : Int) : holds (a ++ b) n = (holds a n || holds b n) := by
 unfold holds
 rw [List.any_append]
 cases decide (0 ≤ n ∧ n ≤ 200) <;> simp
def bits (k d : Nat) (l : List Rg) : List Bool := (List.range' k d).map fun (i : Nat) => holds l (i : Int)
theorem bits_cons (k d : Nat) (l : List Rg) : bits k (d + 1) l = holds l (k : Int) :: bits (k + 1) d l := by
 unfold bits; rw [List.range'_succ, List.map_cons]
theorem of_bits (l : List Rg) : of l = bits 0 201 l := by
 unfold of bits; rw [List.range_eq_range']
theorem bits_past {lo hi : Int} {l : List Rg} : ∀ (d k : Nat), hi < (k : Int) → bits k d ((lo, hi) :: l) = bits k d l := by
 intro d
 induction d with
 | zero => intro k _; rfl
 | succ d ih =>
  intro k hk
  rw [bits_cons, bits_cons, ih (k + 1) (by omega), holds_cons]
  have : decide (((lo, hi) : Rg).1 ≤ (k : Int) ∧ (k : Int) ≤ ((lo, hi) : Rg).2) = false := decide_eq_false (by show ¬ (lo ≤ (k : Int) ∧ (k : Int) ≤ hi); omega)
  rw [this, Bool.and_false, Bool.false_or]
theorem nm_formR : ∀ (d k : Nat), k + d = 201 →
  (∀ l, Nm (k : Int) l → formR k none (bits k d l) = l) ∧
  (∀ (lo : Nat) (hi : Int) (l : List Rg), lo < k → (k : Int) ≤ hi + 1 → hi ≤ 200 → Nm (hi + 2) l → formR k (some lo) (bits k d (((lo : Int), hi) :: l)) = ((lo : Int), hi) :: l) := by
 intro d
 induction d with
 | zero =>
  intro k hk
  refine ⟨fun l h => ?_, fun lo hi l h1 h2 h3 h4 => ?_⟩
  ·cases l with
   | nil => rfl
   | cons r l => exact absurd h.1 (by have := h.2.1; have := h.2.2.1; omega)
  ·have : l = [] := by
    cases l with
    | nil => rfl
    | cons r l => exact absurd h4.1 (by have := h4.2.1; have := h4.2.2.1; omega)
   subst this
   show [((lo : Int), (k : Int) - 1)] = _
   rw [show (k : Int) - 1 = hi by omega]
 | succ d ih =>
  intro k hk
  obtain ⟨ih1, ih2⟩ := ih (k + 1) (by omega)
  refine ⟨fun l h => ?_, fun lo hi l h1 h2 h3 h4 => ?_⟩
  ·rw [bits_cons]
   cases l with
   | nil =>
    rw [holds_nil]
    exact ih1 [] trivial
   | cons r l =>
    obtain ⟨g1, g2, g3, g4⟩ := h
    obtain ⟨r1, r2⟩ := r
    simp only at g1 g2 g3 g4
    by_cases e : (k : Int) = r1
    ·subst e
     have hb : holds (((k : Int), r2) :: l) (k : Int) = true := by
      rw [holds_cons, decide_eq_true (p := 0 ≤ (k : Int) ∧ (k : Int) ≤ 200) (by omega)]
      simp [g2]
     rw [hb]
     exact ih2 k r2 l (by omega) (by omega) g3 g4
    ·have hn : Nm ((k + 1 : Nat) : Int) ((r1, r2) :: l) := ⟨by show ((k + 1 : Nat) : Int) ≤ r1; omega, g2, g3, g4⟩
     rw [hn.before (by omega)]
     exact ih1 _ hn
  ·rw [bits_cons]
   by_cases e : (k : Int) ≤ hi
   ·have hb : holds (((lo : Int), hi) :: l) (k : Int) = true := by
     rw [holds_cons, decide_eq_true (p := 0 ≤ (k : Int) ∧ (k : Int) ≤ 200) (by omega), decide_eq_true (p := (((lo : Int), hi) : Rg).1 ≤ (k : Int) ∧ (k : Int) ≤ (((lo : Int), hi) : Rg).2) (by show (lo : Int) ≤ (k : Int) ∧ (k : Int) ≤ hi; omega)]
     rfl
    rw [hb]
    exact ih2 lo hi l (by omega) (by omega) h3 h4
   ·have e2 : hi = (k : Int) - 1 := by omega
    have hb : holds (((lo : Int), hi) :: l) (k : Int) = false := by
     rw [holds_cons, h4.before (by omega), decide_eq_false (p := (((lo : Int), hi) : Rg).1 ≤ (k : Int) ∧ (k : Int) ≤ (((lo : Int), hi) : Rg).2) (by show ¬ ((lo : Int) ≤ (k : Int) ∧ (k : Int) ≤ hi); omega)]
     simp
    rw [hb, bits_past d (k + 1) (by omega)]
    show ((lo : Int), (k : Int) - 1) :: formR (k + 1) none (bits (k + 1) d l) = _
    rw [ih1 l (h4.mono (by omega)), e2]
theorem nm_form {l : List Rg} (h : Nm 0 l) : form (of l) = l := by
 rw [of_bits]
 exact (nm_formR 201 0 rfl).1 l h
theorem norm_is {l m : List Rg} (h : Nm 0 m) (hs : ∀ n, holds m n = holds l n) : m = norm l := by
 rw [← nm_form h, of_same hs]; rfl
structure Put (S : List Rg) (n : Nat) (out : List Rg) : Prop where
 nm : Nm 0 out
 has : ∀ N, holds out N = holds (S.take n) N
 low : ∀ q, out.getLast? = some q → ∀ m x, n ≤ m → S[m]? = some x → q.1 ≤ x.1
 len : out.length ≤ n
structure Rising (S : List Rg) : Prop where
 bd : ∀ x ∈ S, 0 ≤ x.1 ∧ x.1 ≤ x.2 ∧ x.2 ≤ 200
 up : ∀ (i j : Nat) (x y : Rg), i < j → S[i]? = some x → S[j]? = some y → x.1 ≤ y.1
theorem Put.start (S : List Rg) : Put S 0 [] := ⟨trivial, fun N => rfl, fun q h => (by cases h), Nat.le_refl _⟩
theorem take_holds {S : List Rg} {n : Nat} {r : Rg} (h : S[n]? = some r) (N : Int) : holds (S.take (n + 1)) N = (holds (S.take n) N || (decide (0 ≤ N ∧ N ≤ 200) && decide (r.1 ≤ N ∧ N ≤ r.2))) := by
 obtain ⟨hl, he⟩ := List.getElem?_eq_some_iff.1 h
 rw [List.take_succ_eq_append_getElem hl, he, holds_append, holds_cons, holds_nil, Bool.or_false]
theorem Put.first {S : List Rg} {n : Nat} {r : Rg} (h : Put S n []) (hS : Rising S) (hr : S[n]? = some r) : Put S (n + 1) [r] := by
 have hb := hS.bd r (List.mem_of_getElem? hr)
 refine ⟨⟨hb.1, hb.2.1, hb.2.2, trivial⟩, fun N => ?_, ?_, by simp⟩
 ·rw [take_holds hr, ← h.has N, holds_cons, Bool.or_comm]
 ·rintro q hq m x hm hx
  simp at hq
  subst hq
  exact hS.up n m r x (by omega) hr hx
theorem Put.more {S : List Rg} {n : Nat} {r q : Rg} {out : List Rg} (h : Put S n (out ++ [q])) (hS : Rising S) (hr : S[n]? = some r) (hq : ¬ r.1 ≤ q.2 + 1) : Put S (n + 1) (out ++ [q] ++ [r]) := by
 have hb := hS.bd r (List.mem_of_getElem? hr)
 obtain ⟨s1, s2, s3⟩ := h.nm.snoc
 refine ⟨?_, fun N => ?_, ?_, by have := h.len; rw [List.length_append] at *; simp at *; omega⟩
 ·rw [List.append_assoc]
  exact s1.append ⟨Int.le_refl _, s2, s3, by show q.2 + 2 ≤ r.1; omega, hb.2.1, hb.2.2, trivial⟩
 ·rw [take_holds hr, ← h.has N, holds_append, holds_cons r [], holds_nil, Bool.or_false]
 ·rintro p hp m x hm hx
  simp at hp
  subst hp
  exact hS.up n m r x (by omega) hr hx
theorem Put.on {S : List Rg} {n : Nat} {r q : Rg} {out : List Rg} (h : Put S n (out ++ [q])) (hS : Rising S) (hr : S[n]? = some r) (hq : r.1 ≤ q.2 + 1) : Put S (n + 1) (out ++ [(q.1, max q.2 r.2)]) := by
 have hb := hS.bd r (List.mem_of_getElem? hr)
 obtain ⟨s1, s2, s3⟩ := h.nm.snoc
 have hlow := h.low q (by simp) n r (Nat.le_refl _) hr
 refine ⟨s1.append ⟨Int.le_refl _, by show q.1 ≤ max q.2 r.2; omega, by show max q.2 r.2 ≤ 200; omega, trivial⟩, fun N => ?_, ?_, by have := h.len; rw [List.length_append] at *; simp at *; omega⟩
 ·rw [take_holds hr, ← h.has N, holds_append, holds_append, holds_cons, holds_cons, holds_nil, Bool.or_false, Bool.or_false, Bool.or_assoc, ← Bool.and_or_distrib_left]
  congr 2
  rw [Bool.eq_iff_iff, Bool.or_eq_true, decide_eq_true_eq, decide_eq_true_eq, decide_eq_true_eq]
  simp only
  omega
 ·rintro p hp m x hm hx
  simp at hp
  subst hp
  exact h.low q (by simp) m x (by omega) hx
theorem Put.done {S l out : List Rg} (h : Put S S.length out) (hS : ∀ n, holds S n = holds l n) : out = norm l :=
 norm_is h.nm (fun n => by rw [h.has, List.take_length, hS])
end Go.Proofs.Ytgpeobmaneponaa.Sz
namespace Go.Proofs.Ytgpeobmaneponaa
open Go.RowKit
def ext (lo hi : Int) : List Sz.Rg := if lo ≤ hi then [(lo, hi)] else []
theorem rg_made (w : World) (t : TypeId) (lo hi : Int) : Rgs (w.alloc (.cells #[.int .i64 lo, .int .i64 hi] t)) (fun i => i = w.heap.size) (.slice (some ⟨w.heap.size, 0, none⟩) 1 1) [(lo, hi)] := by
 refine ⟨_, 1, rfl, Nat.le_refl _, fun _ => ⟨w.heap.size, 0, rfl, rfl, by simp, fun i x hx j u hu => ?_⟩⟩
 rw [(Row.made w _ _).at, Nat.zero_add]
 match i, hx with
 | 0, hx =>
  injection hx with hx
  subst hx
  match j, hu with
  | 0, hu => simpa [rgV] using hu
  | 1, hu => simpa [rgV] using hu
end Go.Proofs.Ytgpeobmaneponaa
namespace Go.Proofs.Ytgpeobmaneponaa
open Go.RowKit
theorem cl_made (w : World) (t : TypeId) (p : List UInt8) (lo hi : Int) : Cls (w.alloc (.cells #[.string (mk p), .int .i64 lo, .int .i64 hi] t)) (fun i => i = w.heap.size) (.slice (some ⟨w.heap.size, 0, none⟩) 1 1) [⟨p, lo, hi⟩] := by
 refine ⟨_, 1, rfl, Nat.le_refl _, fun _ => ⟨w.heap.size, 0, rfl, rfl, by simp, fun i x hx j u hu => ?_⟩⟩
 rw [(Row.made w _ _).at, Nat.zero_add]
 match i, hx with
 | 0, hx =>
  injection hx with hx
  subst hx
  match j, hu with
  | 0, hu => simpa [clV] using hu
  | 1, hu => simpa [clV] using hu
  | 2, hu => simpa [clV] using hu
theorem Flt.hits_take {f : List Flt.Cl} {n : Nat} {c : Flt.Cl} (hc : f[n]? = some c) (p : List UInt8) (s : Int) (d : Bool) : Flt.hits (f.take (n + 1)) p s d = (Flt.hits (f.take n) p s d || Flt.hit p s d c) := by
 obtain ⟨hl, he⟩ := List.getElem?_eq_some_iff.1 hc
 rw [List.take_succ_eq_append_getElem hl, he]
 unfold Flt.hits
 rw [List.any_append]
 simp
theorem Flt.hits_mono {f : List Flt.Cl} {n : Nat} {p : List UInt8} {s : Int} {d : Bool} (h : Flt.hits (f.take n) p s d = true) : Flt.hits f p s d = true := by
 unfold Flt.hits at *
 rw [List.any_eq_true] at *
 obtain ⟨c, hc, h⟩ := h
 exact ⟨c, List.mem_of_mem_take hc, h⟩
end Go.Proofs.Ytgpeobmaneponaa
namespace Go.Proofs.Ytgpeobmaneponaa
open Go.RowKit
theorem ref_fmatch {w : World} {F : Nat → Prop} {v : Value} {f : List Flt.Cl} (p : List UInt8) (s : Int) (d : Bool) (h : Cls w F v f) (hl : f.length ≤ 1000000) (hp : p.length ≤ 9223372036854775807) (hs : ∀ c ∈ f, c.pre.length ≤ 100000) :
  Calls Try.prog 35 #[v, fileV p s d] w fun e w' => e = .returned (.bool (Flt.hits f p s d)) ∧ Below w.heap.size w w' := by
 obtain ⟨A, cap, rfl, hcap⟩ := h.parts
 have hb0 : Below w.heap.size w (w.alloc (.cells #[.string (mk p), .int .i64 s, .bool d] 34)) := (Below.refl _ _).alloc (Nat.le_refl _) _
 have HB0 := Lib.hid hb0
 have H := Lib.hid (h.below hb0)
 have HS := Lib.hid hs
 have COV := Lib.hid (fun (q : List UInt8) (hq : q.length ≤ 100000) (W : World) => ref_covers1 q p W hq)
 have hl' : (f.length : Int) ≤ 1000000 := by omega
 have XA := Lib.hid (Row.made w 34 #[.string (mk p), .int .i64 s, .bool d])
 clear h hs hb0
 unfold fileV
 go_enter Try.func35, Try.ntmps35
 go_wp2_with fail
 generalize hW : w.alloc (.cells #[.string (mk p), .int .i64 s, .bool d] 34) = w0 at *
 have hg : w.heap.size < w0.heap.size := by rw [← hW]; simp
 clear hW
 generalize hgw : w.heap.size = g at *
 have Hgw := Lib.hid hgw
 clear hgw
 go_loopw [5] (fun i wr => ∃ n : Nat, n ≤ f.length ∧ i = .int .i64 (n : Int) ∧ Hid (Flt.hits (f.take n) p s d = false) ∧ Below w0.heap.size w0 wr) (fun i _ => f.length - (intOf i).toNat)
 case atStart => exact ⟨0, Nat.zero_le _, rfl, Lib.hid (by simp [Flt.hits]), Below.refl _ _⟩
 case round =>
  obtain ⟨n, hn, rfl, hno, hbel⟩ := hrel
  have r0 : wr.cell? ⟨g, 0, none⟩ = some (.string (mk p)) := (hbel.cell (p := ⟨g, 0, none⟩) hg).trans (XA.out.at 0)
  have r1 : wr.cell? ⟨g, 1, none⟩ = some (.int .i64 s) := (hbel.cell (p := ⟨g, 1, none⟩) hg).trans (XA.out.at 1)
  have r2 : wr.cell? ⟨g, 2, none⟩ = some (.bool d) := (hbel.cell (p := ⟨g, 2, none⟩) hg).trans (XA.out.at 2)
  by_cases hlt : n < f.length
  ·obtain ⟨b, o, cap', e, -, -, hb⟩ := H.out.block (by omega)
   injection e with e1 e2 e3
   subst e1 e3
   clear e2
   obtain ⟨x, hx⟩ : ∃ x, f[n]? = some x := ⟨_, List.getElem?_eq_getElem hlt⟩
   have hpx := HS.out x (List.mem_of_getElem? hx)
   have hn0 : (0 : Int) ≤ (n : Int) := by omega
   have hn1 : (n : Int) < (f.length : Int) := by omega
   have CA : Hid (∀ W, Below w0.heap.size w0 W → W.cell? ⟨b, o + n * 3, none⟩ = some (.string (mk x.pre)) ∧ W.cell? ⟨b, o + n * 3 + 1, none⟩ = some (.int .i64 x.lo) ∧ W.cell? ⟨b, o + n * 3 + 2, none⟩ = some (.int .i64 x.hi)) := Lib.hid (fun W hW => Cls.at (H.out.below hW) hx)
   obtain ⟨c0, c1, c2⟩ := CA.out wr hbel
   have hst := Lib.hid (Flt.hits_take hx p s d)
   have hmo := Lib.hid (Flt.hits_mono (f := f) (n := n + 1) (p := p) (s := s) (d := d))
   obtain ⟨xp, x1, x2⟩ := x
   simp only at c0 c1 c2 hpx
   have CV := Lib.hid (COV.out xp hpx)
   have Hbel := Lib.hid hbel
   clear hbel hx COV CA
   have hD : Hid (Flt.hit p s d ⟨xp, x1, x2⟩ = (decide (Pth.Covers xp p) && (d || (decide (0 ≤ s) && (decide (s ≤ 200) && (decide (x1 ≤ s) && decide (s ≤ x2))))))) := Lib.hid (by rw [Bool.eq_iff_iff]; unfold Flt.hit; simp only [decide_eq_true_iff, Bool.and_eq_true, Bool.or_eq_true])
   have hall : Hid (Flt.hits (f.take (n + 1)) p s d = Flt.hit p s d ⟨xp, x1, x2⟩) := Lib.hid (by rw [hst.out, hno.out, Bool.false_or])
   generalize Flt.hit p s d ⟨xp, x1, x2⟩ = D at *
   generalize decide (Pth.Covers xp p) = d1 at *
   have e3 : ∀ b, decide ((0 : Int) ≤ s) = b → decide (s ≥ (0 : Int)) = b := fun b h => h
   generalize e1 : decide ((0 : Int) ≤ s) = d2 at hD
   generalize e2 : decide (s ≤ (200 : Int)) = d3 at hD
   generalize e4 : decide (x1 ≤ s) = d4 at hD
   generalize e5 : decide (s ≤ x2) = d5 at hD
   clear hst hno e3
   generalize mk xp = xs at *
   generalize mk p = ps at *
   cases d1
   ·go_wp2_with fail
    go_quiet ((go_at_call 48; exact Calls.quiet_of_same (CV.out _)))
    go_wp2_with fail
    exact ⟨⟨n + 1, by omega, by go_num, Lib.hid (by rw [hall.out, hD.out]; rfl), Hbel.out.trans ((below_drews' wr nq).mono Hbel.out.size)⟩, by show f.length - ((n : Int) + 1).toNat < f.length - (n : Int).toNat; omega⟩
   ·cases d
    ·cases d2
     ·go_wp2_with fail
      go_quiet ((go_at_call 48; exact Calls.quiet_of_same (CV.out _)))
      go_wp2_with fail
      exact ⟨⟨n + 1, by omega, by go_num, Lib.hid (by rw [hall.out, hD.out]; rfl), Hbel.out.trans ((below_drews' wr nq).mono Hbel.out.size)⟩, by show f.length - ((n : Int) + 1).toNat < f.length - (n : Int).toNat; omega⟩
     ·cases d3
      ·go_wp2_with fail
       go_quiet ((go_at_call 48; exact Calls.quiet_of_same (CV.out _)))
       go_wp2_with fail
       exact ⟨⟨n + 1, by omega, by go_num, Lib.hid (by rw [hall.out, hD.out]; rfl), Hbel.out.trans ((below_drews' wr nq).mono Hbel.out.size)⟩, by show f.length - ((n : Int) + 1).toNat < f.length - (n : Int).toNat; omega⟩
      ·cases d4
       ·go_wp2_with fail
        go_quiet ((go_at_call 48; exact Calls.quiet_of_same (CV.out _)))
        go_wp2_with fail
        exact ⟨⟨n + 1, by omega, by go_num, Lib.hid (by rw [hall.out, hD.out]; rfl), Hbel.out.trans ((below_drews' wr nq).mono Hbel.out.size)⟩, by show f.length - ((n : Int) + 1).toNat < f.length - (n : Int).toNat; omega⟩
       ·cases d5
        ·go_wp2_with fail
         go_quiet ((go_at_call 48; exact Calls.quiet_of_same (CV.out _)))
         go_wp2_with fail
         exact ⟨⟨n + 1, by omega, by go_num, Lib.hid (by rw [hall.out, hD.out]; rfl), Hbel.out.trans ((below_drews' wr nq).mono Hbel.out.size)⟩, by show f.length - ((n : Int) + 1).toNat < f.length - (n : Int).toNat; omega⟩
        ·go_wp2_with fail
         go_quiet ((go_at_call 48; exact Calls.quiet_of_same (CV.out _)))
         go_wp2_with fail
         go_ret
         exact ⟨by rw [hmo.out (by rw [hall.out, hD.out]; rfl)]; rfl, by rw [Hgw.out]; exact HB0.out.trans ((Hbel.out.trans ((below_drews' wr nq).mono Hbel.out.size)).mono (Nat.le_of_lt hg))⟩
    ·go_wp2_with fail
     go_quiet ((go_at_call 48; exact Calls.quiet_of_same (CV.out _)))
     go_wp2_with fail
     go_ret
     exact ⟨by rw [hmo.out (by rw [hall.out, hD.out]; rfl)]; rfl, by rw [Hgw.out]; exact HB0.out.trans ((Hbel.out.trans ((below_drews' wr nq).mono Hbel.out.size)).mono (Nat.le_of_lt hg))⟩
  ·obtain rfl : n = f.length := by omega
   have hno' : Hid (Flt.hits f p s d = false) := Lib.hid (by have := hno.out; rwa [List.take_length] at this)
   have Hbel := Lib.hid hbel
   clear hbel hno
   go_wp2_with fail
   go_ret
   exact ⟨by rw [hno'.out]; rfl, by rw [Hgw.out]; exact HB0.out.trans (Hbel.out.mono (Nat.le_of_lt hg))⟩
end Go.Proofs.Ytgpeobmaneponaa
