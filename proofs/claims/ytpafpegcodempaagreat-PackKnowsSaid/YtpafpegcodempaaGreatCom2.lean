import Derived.Test.YtpafpegcodempaaGreatCom1
import Derived.Lib.AppendStr
import Derived.RegionTactic
import Derived.Deep.RegionLaw
import Derived.Deep.AppendLies
import Derived.KernelRfl
import Derived.Lib.BufferRead
set_option maxRecDepth 100000
set_option linter.all false
set_option maxHeartbeats 12800000
namespace Go.Proofs.YtpafpegcodempaaGreat
open Go.RowKit
theorem byteCellsOf : Tryz.prog.cellsOf 5 = 1 := by kernel_rfl
theorem inner_clone (s : ByteArray) (w : World) (hlim : s.size ≤ 281474976710656) :
  Calls Tryz.prog 321 #[.string s] w fun e w' => e = .returned (.string s) ∧ Below w.heap.size w w' := by
 rcases Nat.eq_zero_or_pos s.size with hz | hpos
 ·obtain rfl : s = ⟨#[]⟩ := ByteArray.ext (Array.eq_empty_of_size_eq_zero hz)
  clear hz
  go_enter Tryz.func321, Tryz.ntmps321
  go_wp2
  go_ret
  exact ⟨rfl, Below.refl _ _⟩
 ·obtain ⟨info, hinfo, hzero, hsize, hbytes⟩ := info_parts byteInfo
  -- the row that is made, by a name of its own
  obtain ⟨blank, hblank⟩ : ∃ blank, blank = madeCells (Value.int .u8 0).cells (((s.size : Nat) : Int).toNat * info.size) := ⟨_, rfl⟩
  have hmake : ∀ V : World, (Instr.makeSlice 68 (.int .i64 (s.size : Int)) (.int .i64 (s.size : Int))).run Tryz.prog V = .ok (.slice (some ⟨V.heap.size, 0, none⟩) s.size s.size) (V.alloc (.cells blank 5)) := by
   intro V
   have := run_make (P := Tryz.prog) V 68 5 info (.int .u8 0) Tryz.underlying68 hinfo hzero .i64 .i64 (s.size : Int) (s.size : Int) (by omega) (by omega) (by rw [hbytes]; omega) (by omega)
   rw [← hblank] at this
   simpa using this
  have hbs : blank.size = s.size := by rw [hblank, size_madeCells, hsize]; simp
  clear hblank
  generalize hw1 : w.alloc (.cells blank 5) = w1
  have hrow : w1.heap[w.heap.size]? = some (.cells blank 5 (0, 0)) := by rw [← hw1]; exact heap_alloc_new w _
  have hcopy := Lib.run_copy_row_string (P := Tryz.prog) w1 68 9 3 5 w.heap.size 0 s.size s.size s blank 5 Tryz.underlying68
   (by rw [hinfo]; simp [hsize]) hrow (Nat.le_refl _) (by omega)
  obtain ⟨full, hfull⟩ : ∃ full, full = (blank.toList.take 0 ++ Lib.byteCells s.data.toList ++ blank.toList.drop (0 + s.size)).toArray := ⟨_, rfl⟩
  rw [← hfull] at hcopy
  have hlist : full.toList = Lib.byteCells s.data.toList := by
   rw [hfull]
   simp only [List.take_zero, List.nil_append, Nat.zero_add]
   rw [List.drop_of_length_le (by rw [Array.length_toList]; omega), List.append_nil]
  have hfs : full.size = s.size := by rw [← Array.length_toList, hlist, Lib.byteCells_length, ← Lib.size_eq]
  clear hfull
  have hrow2 : (w1.setRow w.heap.size full).heap[w.heap.size]? = some (.cells full 5 (0, 0)) := setRow_heap _ _ blank _ _ _ hrow
  have hne : s.data.toList ≠ [] := by
   intro h
   have := Lib.size_eq s
   rw [h] at this
   simp only [List.length_nil] at this
   omega
  have hstr := Lib.run_unsafeString_row (P := Tryz.prog) (w1.setRow w.heap.size full) 366 3 9 5 Tryz.underlying366 byteCellsOf w.heap.size full.size
   (by unfold World.shape?; rw [hrow2]) s.data.toList hne (by rw [← Lib.size_eq]; omega) (by rw [← Lib.size_eq]; omega)
   (fun j x hx => Lib.cells_of_row hrow2 full.size j _ (by rw [List.take_of_length_le (by rw [Array.length_toList]; exact Nat.le_refl _), hlist]; simp [Lib.byteCells, hx]))
  rw [← Lib.size_eq] at hstr
  have hb : Below w.heap.size w ((w1.setRow w.heap.size full).freeze ⟨w.heap.size, 0, none⟩ s.size) := by
   refine Lib.below_freeze (B := w.heap.size) ?_ (p := ⟨w.heap.size, 0, none⟩) (Nat.le_refl _) _
   refine Below.trans (b := w1) (by rw [← hw1]; exact (Below.refl _ w).alloc (Nat.le_refl _) _) ⟨rfl, rfl, rfl, by simp, fun k hk => setRow_other _ _ _ _ (by omega)⟩
  have Hb := Lib.hid hb
  clear hb hlist hfs hrow hrow2 hne hbs
  subst hw1
  go_enter Tryz.func321, Tryz.ntmps321
  go_wp2
  go_ret
  exact ⟨rfl, Hb.out⟩
theorem clone_any (s : ByteArray) (w : World) (hlim : s.size ≤ 281474976710656) :
  Calls Tryz.prog 239 #[.string s] w fun e w' => e = .returned (.string s) ∧ Below w.heap.size w w' := by
 go_enter Tryz.func239, Tryz.ntmps239
 go_wp2_with (go_at_call 321; refine (inner_clone _ _ hlim).mono ?_; rintro e w' ⟨rfl, hb⟩)
 go_ret
 exact ⟨rfl, hb⟩
def TPost (w : World) (b : Nat) (t l : List UInt8) (e0 : Int) (e : Ending) (w' : World) : Prop :=
 e = .returned (.string ⟨t.toArray⟩) ∧ RdL w' b l e0 ∧ w.grownBy w' (some b)
theorem t_of {w : World} {b n : Nat} {l1 : List UInt8} {e1 : Int} (hm : l1.length ≤ 281474976710656) (hn : n < 9223372036854775808)
  (hN : Calls Tryz.prog 143 #[.pointer (some ⟨b, 0, none⟩)] w (NPost w b n l1 e1)) :
  Calls Tryz.prog 139 #[.pointer (some ⟨b, 0, none⟩)] w
   (if e1 = 0 then (if l1.length < n then TPost w b [] [] 5 else TPost w b (l1.take n) (l1.drop n) 0) else TPost w b [] l1 e1) := by
 have HN := Lib.hid hN
 clear hN
 by_cases he : e1 = 0
 ·rw [if_pos he]
  subst he
  by_cases hlt : l1.length < n
  ·rw [if_pos hlt]
   have hsz : (⟨l1.toArray⟩ : ByteArray).size < n := by rw [mk_size]; exact hlt
   clear hlt
   go_enter Tryz.func139, Tryz.ntmps139
   go_wp2_with (first
    | (go_at_call 143; refine (HN.out).mono ?_; rintro e w1 ⟨rfl, h1, h2⟩; have c0 : w1.cell? ⟨b, 0, none⟩ = some (.string ⟨l1.toArray⟩) := Row.at h1 0)
    | (go_at_call 140; refine (err_any h1).mono ?_; rintro e w' ⟨rfl, rfl⟩)
    | (go_at_call 238; refine (fail_any h1 _).mono ?_; rintro e w' ⟨rfl, h3, h4⟩))
   go_ret
   exact ⟨rfl, rd_list h3 rfl, gb_trans h2 h4⟩
  ·rw [if_neg hlt]
   have hsz : ¬ (⟨l1.toArray⟩ : ByteArray).size < n := by rw [mk_size]; exact hlt
   have hsz2 : n ≤ (⟨l1.toArray⟩ : ByteArray).size := by omega
   have hsz3 : (⟨l1.toArray⟩ : ByteArray).size ≤ 281474976710656 := by rw [mk_size]; exact hm
   clear hlt hm
   have hn2 : Calls Tryz.prog 143 #[.pointer (some ⟨b, 0, none⟩)] w (fun e w' => e = .returned (.int .i64 n) ∧ Rd w' b ⟨l1.toArray⟩ 0 ∧ w.grownBy w' (some b)) := HN.out
   have hd : (⟨l1.toArray⟩ : ByteArray).data.toList = l1 := rfl
   have Hd := Lib.hid hd
   have HN2 := Lib.hid hn2
   clear hd hn2 HN
   generalize (⟨l1.toArray⟩ : ByteArray) = r at *
   go_enter Tryz.func139, Tryz.ntmps139
   go_wp2_with (first
    | (go_at_call 143; refine (HN2.out).mono ?_; rintro e w1 ⟨rfl, h1, h2⟩; have c0 : w1.cell? ⟨b, 0, none⟩ = some (.string r) := Row.at h1 0)
    | (go_at_call 140; refine (err_any h1).mono ?_; rintro e w' ⟨rfl, rfl⟩)
    | (go_at_call 239; refine (clone_any _ _ (by simp; omega)).mono ?_; rintro e w2 ⟨rfl, hb⟩; have h3 : Rd w2 b r 0 := Row.below h1 hb (Row.inHeap h1); have c2 : w2.cell? ⟨b, 0, none⟩ = some (.string r) := Row.at h3 0; have f2 := Row.free h3 0; have h4 := Row.stored h3 0 (.string (r.extract n r.size))))
   go_ret
   refine ⟨?_, rd_list (r := r.extract n r.size) (by unfold Rd; simpa using h4) (by rw [cut_data, Hd.out]), gb_store (gb_trans h2 (gb_below hb _)) 0 _⟩
   have : r.extract 0 n = ⟨(l1.take n).toArray⟩ := bytes_ext (by rw [Lib.extract_data, Hd.out]; simp)
   show Ending.returned (.string (r.extract 0 n)) = _
   rw [this]
 ·rw [if_neg he]
  have hne : (e1 != 0) = true := by simp [he]
  clear he
  go_enter Tryz.func139, Tryz.ntmps139
  go_wp2_with (first
   | (go_at_call 143; refine (HN.out).mono ?_; rintro e w' ⟨rfl, h1, h2⟩)
   | (go_at_call 140; refine (err_any h1).mono ?_; rintro e w' ⟨rfl, rfl⟩))
  go_ret
  exact ⟨rfl, h1, h2⟩
theorem t_any {w : World} {b : Nat} {l : List UInt8} {e0 : Int} (h : RdL w b l e0) (hm : l.length ≤ 281474976710656) :
  Calls Tryz.prog 139 #[.pointer (some ⟨b, 0, none⟩)] w (TPost w b (stepT l e0).1 (stepT l e0).2.1 (stepT l e0).2.2) := by
 have hN := n_any h hm
 have hff := Leb.first_fits l
 by_cases he : e0 = 0
 ·by_cases hf : (Leb.first l).2.2 = 0
  ·have hs : stepN l e0 = ((Leb.first l).1, l.drop (Leb.first l).2.1, 0) := by simp [stepN, hf, he]
   rw [hs] at hN
   have ht := t_of (by rw [List.length_drop]; omega) hff.1 hN
   rw [if_pos rfl, List.length_drop] at ht
   by_cases hl : l.length - (Leb.first l).2.1 < (Leb.first l).1
   ·rw [if_pos hl] at ht
    have : stepT l e0 = ([], [], 5) := by simp [stepT, he, Leb.second, hf, hl]
    rw [this]; exact ht
   ·rw [if_neg hl] at ht
    have : stepT l e0 = ((l.drop (Leb.first l).2.1).take (Leb.first l).1, (l.drop (Leb.first l).2.1).drop (Leb.first l).1, 0) := by
     simp [stepT, he, Leb.second, hf, hl]
    rw [this]; exact ht
  ·have hs : stepN l e0 = (0, [], (Leb.first l).2.2) := by simp [stepN, hf, he]
   rw [hs] at hN
   have ht := t_of (by simp) (by omega) hN
   rw [if_neg hf] at ht
   have : stepT l e0 = ([], [], (Leb.first l).2.2) := by simp [stepT, he, Leb.second, hf]
   rw [this]; exact ht
 ·have hs : stepN l e0 = (0, l, e0) := by simp [stepN, he]
  rw [hs] at hN
  have ht := t_of hm (by omega) hN
  rw [if_neg he] at ht
  have : stepT l e0 = ([], l, e0) := by simp [stepT, he]
  rw [this]; exact ht
theorem Leb.second_txt (t r : List UInt8) (h : t.length < 9223372036854775808) : Leb.second (Leb.enc t.length ++ t ++ r) = (t, (Leb.enc t.length).length + t.length, 0) := by
 have h1 := Leb.first_enc t.length (t ++ r) h
 rw [← List.append_assoc] at h1
 unfold Leb.second
 rw [h1]
 simp only [if_true]
 rw [if_neg (by simp)]
 congr 1
 rw [List.append_assoc, List.drop_left, List.take_left]
theorem stepN_left (l : List UInt8) (e : Int) : (stepN l e).2.1.length ≤ l.length := by
 unfold stepN
 split
 ·split
  ·simp only [List.length_drop]; omega
  ·simp
 ·exact Nat.le_refl _
theorem stepN_fits (l : List UInt8) (e : Int) : (stepN l e).1 < 9223372036854775808 := by
 unfold stepN
 split
 ·split
  ·exact (Leb.first_fits l).1
  ·simp
 ·simp
theorem stepT_left (l : List UInt8) (e : Int) : (stepT l e).1.length + (stepT l e).2.1.length ≤ l.length := by
 unfold stepT
 split
 ·split
  ·rename_i h0 h
   unfold Leb.second at h ⊢
   split at h
   ·rename_i hf
    rw [if_pos hf]
    split at h
    ·cases h
    ·rename_i hl
     rw [if_neg hl]
     simp only [List.length_take, List.length_drop]
     omega
   ·rename_i hf
    exact absurd h hf
  ·simp
 ·simp
theorem stepT_less {l : List UInt8} {e : Int} (h : (stepT l e).1 ≠ []) : (stepT l e).1.length + (stepT l e).2.1.length + 1 ≤ l.length := by
 unfold stepT at h ⊢
 split at h
 ·rename_i h0
  rw [if_pos h0]
  split at h
  ·rename_i hs
   rw [if_pos hs]
   unfold Leb.second at h hs ⊢
   split at hs
   ·rename_i hf
    rw [if_pos hf] at h ⊢
    split at hs
    ·cases hs
    ·rename_i hl
     rw [if_neg hl] at h ⊢
     obtain ⟨-, h2, h3⟩ := Leb.first_only l (Leb.first l).1 (Leb.first l).2.1 (by rw [← hf])
     have h4 := (Leb.enc_len (Leb.first l).1).1
     simp only [ne_eq, List.length_take, List.length_drop] at h ⊢
     have h5 := (Leb.first_fits l).2.1
     omega
   ·rename_i hf
    exact absurd hs hf
  ·exact absurd rfl h
 ·exact absurd rfl h
namespace Pck
def num (n : Int) : List UInt8 := Leb.enc n.toNat
def txt (t : List UInt8) : List UInt8 := Leb.enc t.length ++ t
def lst {α : Type} (f : α → List UInt8) (l : List α) : List UInt8 := Leb.enc l.length ++ l.flatMap fun x => txt (f x)
def numR (n : Int) : List UInt8 := if 0 ≤ n then num n else [UInt8.ofNat (n % 256).toNat]
theorem numR_is {n : Int} (h : 0 ≤ n) : numR n = num n := if_pos h
theorem numR_len (n : Int) : (numR n).length ≤ 9 := by
 unfold numR
 split
 ·exact (Leb.enc_len _).2
 ·simp
theorem step_num {n : Int} (h0 : 0 ≤ n) (h : n ≤ 9223372036854775807) (r : List UInt8) : stepN (num n ++ r) 0 = (n.toNat, r, 0) := by
 have h1 := Leb.first_enc n.toNat r (by omega)
 unfold stepN num
 rw [if_pos rfl, h1]
 simp only [if_true]
 rw [List.drop_left]
theorem step_len {n : Nat} (h : n < 9223372036854775808) (r : List UInt8) : stepN (Leb.enc n ++ r) 0 = (n, r, 0) := by
 have h1 := Leb.first_enc n r h
 unfold stepN
 rw [if_pos rfl, h1]
 simp only [if_true]
 rw [List.drop_left]
theorem step_txt {t : List UInt8} (h : t.length < 9223372036854775808) (r : List UInt8) : stepT (txt t ++ r) 0 = (t, r, 0) := by
 have h1 := Leb.second_txt t r h
 unfold stepT txt
 rw [if_pos rfl, h1]
 simp only [if_true]
 rw [← List.length_append, List.drop_left]
abbrev Rdr (α : Type) := List UInt8 → Int → α × List UInt8 × Int
section
variable {α : Type}
def rn : Rdr Int := fun l e => (((stepN l e).1 : Int), (stepN l e).2)
def inn (rd : Rdr α) : Rdr α := fun l e => ((rd (stepT l e).1 0).1, (stepT l e).2)
def elems (rd : Rdr α) : Nat → Rdr (List α)
 | 0, l, e => ([], l, e)
 | n + 1, l, e =>
  if endOf (rd (stepT l e).1 0).2.1.length (rd (stepT l e).1 0).2.2 = 0 then ((rd (stepT l e).1 0).1 :: (elems rd n (stepT l e).2.1 (stepT l e).2.2).1, (elems rd n (stepT l e).2.1 (stepT l e).2.2).2)
  else ([(rd (stepT l e).1 0).1], (stepT l e).2)
def list (rd : Rdr α) : Rdr (List α) := fun l e => elems rd (stepN l e).1 (stepN l e).2.1 (stepN l e).2.2
def Backs (rd : Rdr α) (f : α → List UInt8) (x : α) : Prop := ∀ r, rd (f x ++ r) 0 = (x, r, 0)
theorem Backs.whole {rd : Rdr α} {f : α → List UInt8} {x : α} (h : Backs rd f x) : rd (f x) 0 = (x, [], 0) := by
 have := h []
 rwa [List.append_nil] at this
theorem inn_backs {rd : Rdr α} {f : α → List UInt8} {x : α} (h : Backs rd f x) (hl : (f x).length < 9223372036854775808) : Backs (inn rd) (fun x => txt (f x)) x := by
 intro r
 unfold inn
 rw [step_txt hl, h.whole]
theorem elems_backs {rd : Rdr α} {f : α → List UInt8} : ∀ (l : List α), (∀ x ∈ l, Backs rd f x ∧ (f x).length < 9223372036854775808) → ∀ r, elems rd l.length (l.flatMap (fun x => txt (f x)) ++ r) 0 = (l, r, 0)
 | [], _, r => rfl
 | x :: l, h, r => by
  obtain ⟨h1, h2⟩ := h x (by simp)
  have ih := elems_backs l (fun y hy => h y (List.mem_cons_of_mem _ hy)) r
  rw [List.length_cons, List.flatMap_cons, List.append_assoc, elems, step_txt h2, h1.whole]
  simp only [List.length_nil]
  rw [if_pos (show endOf 0 0 = 0 from rfl), ih]
theorem list_backs {rd : Rdr α} {f : α → List UInt8} {l : List α} (h : ∀ x ∈ l, Backs rd f x ∧ (f x).length < 9223372036854775808) (hl : l.length < 9223372036854775808) : Backs (list rd) (lst f) l := by
 intro r
 unfold list lst
 rw [List.append_assoc, step_len hl]
 exact elems_backs l h r
def rt : Rdr (List UInt8) := stepT
def ret (x : α) : Rdr α := fun l e => (x, l, e)
def bnd {β : Type} (a : Rdr α) (k : α → Rdr β) : Rdr β := fun l e => k (a l e).1 (a l e).2.1 (a l e).2.2
def Takes (rd : Rdr α) (p : List UInt8) (x : α) : Prop := ∀ r, rd (p ++ r) 0 = (x, r, 0)
theorem Takes.ret (x : α) : Takes (ret x) [] x := fun _ => rfl
theorem Takes.bnd {β : Type} {a : Rdr α} {k : α → Rdr β} {p q : List UInt8} {x : α} {y : β} (h : Takes a p x) (h2 : Takes (k x) q y) : Takes (bnd a k) (p ++ q) y := by
 intro r
 unfold Pck.bnd
 rw [List.append_assoc, h (q ++ r)]
 exact h2 r
theorem Takes.num {n : Int} (h0 : 0 ≤ n) (h : n ≤ 9223372036854775807) : Takes rn (num n) n := by
 intro r
 unfold rn
 rw [step_num h0 h r]
 simp only
 rw [Int.toNat_of_nonneg h0]
theorem Takes.txt {t : List UInt8} (h : t.length < 9223372036854775808) : Takes rt (txt t) t := fun r => step_txt h r
theorem Takes.eq {rd : Rdr α} {p q : List UInt8} {x : α} (h : Takes rd p x) (e : p = q) : Takes rd q x := e ▸ h
theorem rn_nonneg (l : List UInt8) (e : Int) : 0 ≤ (rn l e).1 ∧ (rn l e).1 ≤ 9223372036854775807 := by
 have := stepN_fits l e
 unfold rn
 simp only
 omega
theorem rn_left (l : List UInt8) (e : Int) : (rn l e).2.1.length ≤ l.length := stepN_left l e
theorem rt_left (l : List UInt8) (e : Int) : (rt l e).1.length ≤ l.length ∧ (rt l e).2.1.length ≤ l.length := by
 have := stepT_left l e
 unfold rt
 omega
def Never (rd : Rdr α) : Prop := (rd [] 0).2.2 ≠ 0
theorem endOf_iff {n : Nat} {e : Int} : endOf n e = 0 ↔ n = 0 ∧ e = 0 := by
 unfold endOf
 split
 ·rename_i h
  split
  ·rename_i h1; exact ⟨fun _ => ⟨h1, h⟩, fun _ => rfl⟩
  ·rename_i h1; exact ⟨fun h2 => absurd h2 (by decide), fun h2 => absurd h2.1 h1⟩
 ·rename_i h; exact ⟨fun h2 => absurd h2 h, fun h2 => h2.2⟩
theorem Never.some {rd : Rdr α} (h : Never rd) {t : List UInt8} (ht : endOf (rd t 0).2.1.length (rd t 0).2.2 = 0) : t ≠ [] := by
 rintro rfl
 exact h (endOf_iff.1 ht).2
theorem elems_len {rd : Rdr α} (hn : Never rd) : ∀ (n : Nat) (l : List UInt8) (e : Int), (elems rd n l e).1.length ≤ l.length + 1
 | 0, l, e => by simp [elems]
 | n + 1, l, e => by
  rw [elems]
  split
  ·rename_i h
   have h1 := stepT_less (hn.some h)
   have ih := elems_len hn n (stepT l e).2.1 (stepT l e).2.2
   simp only [List.length_cons]
   omega
  ·simp
theorem stepN_less (l : List UInt8) (e : Int) : (stepN l e).1 = 0 ∨ (stepN l e).2.1.length + 1 ≤ l.length := by
 unfold stepN
 split
 ·split
  ·rename_i h0 h
   obtain ⟨-, h2, h3⟩ := Leb.first_only l (Leb.first l).1 (Leb.first l).2.1 (by rw [← h])
   have h4 := (Leb.enc_len (Leb.first l).1).1
   have h5 := (Leb.first_fits l).2.1
   right
   simp only [List.length_drop]
   omega
  ·exact Or.inl rfl
 ·exact Or.inl rfl
theorem list_len {rd : Rdr α} (hn : Never rd) (l : List UInt8) (e : Int) : (list rd l e).1.length ≤ l.length := by
 unfold list
 rcases stepN_less l e with h | h
 ·rw [h]
  simp [elems]
 ·have h1 := elems_len hn (stepN l e).1 (stepN l e).2.1 (stepN l e).2.2
  omega
theorem elems_all {rd : Rdr α} {Q : α → Prop} {m : Nat} (hq : ∀ t : List UInt8, t.length ≤ m → Q (rd t 0).1) : ∀ (n : Nat) (l : List UInt8) (e : Int), l.length ≤ m → ∀ x ∈ (elems rd n l e).1, Q x
 | 0, l, e, _, x, hx => by simp [elems] at hx
 | n + 1, l, e, hl, x, hx => by
  have h1 := stepT_left l e
  rw [elems] at hx
  split at hx
  ·rcases List.mem_cons.1 hx with rfl | hx
   ·exact hq _ (by omega)
   ·exact elems_all hq n _ _ (by omega) x hx
  ·simp only [List.mem_singleton] at hx
   subst hx
   exact hq _ (by omega)
theorem list_all {rd : Rdr α} {Q : α → Prop} {m : Nat} (hq : ∀ t : List UInt8, t.length ≤ m → Q (rd t 0).1) (l : List UInt8) (e : Int) (hl : l.length ≤ m) : ∀ x ∈ (list rd l e).1, Q x :=
 elems_all hq _ _ _ (Nat.le_trans (stepN_left l e) hl)
theorem num_len (n : Int) : (num n).length ≤ 9 := (Leb.enc_len _).2
theorem txt_len (t : List UInt8) : (txt t).length ≤ t.length + 9 := by
 have := (Leb.enc_len t.length).2
 unfold txt
 rw [List.length_append]
 omega
theorem flat_le {f : α → List UInt8} {m : Nat} : ∀ (l : List α), (∀ x ∈ l, (f x).length ≤ m) → (l.flatMap fun x => txt (f x)).length ≤ l.length * (m + 9)
 | [], _ => by simp
 | x :: l, h => by
  have h1 := txt_len (f x)
  have h2 := h x (by simp)
  have ih := flat_le l (fun y hy => h y (List.mem_cons_of_mem _ hy))
  rw [List.flatMap_cons, List.length_append, List.length_cons, Nat.add_one_mul]
  omega
theorem lst_le {f : α → List UInt8} {m : Nat} (l : List α) (h : ∀ x ∈ l, (f x).length ≤ m) : (lst f l).length ≤ 9 + l.length * (m + 9) := by
 have h1 := (Leb.enc_len l.length).2
 have h2 := flat_le l h
 unfold lst
 rw [List.length_append]
 omega
def putOf (ok : Prop) [Decidable ok] (bs : List UInt8) : List UInt8 × Int := if ok then (if bs.length ≤ 65536 then (bs, 0) else ([], 4)) else ([], 2)
def getOf (rd : Rdr α) (put : α → List UInt8 × Int) (zero : α) (s : List UInt8) : α × Int :=
 if 65536 < s.length then (zero, 6) else if (put (rd s 0).1).2 = 0 ∧ (put (rd s 0).1).1 = s then ((rd s 0).1, 0) else (zero, 6)
theorem put_good {ok : Prop} [Decidable ok] {bs : List UInt8} (h : ok) (hl : bs.length ≤ 65536) : putOf ok bs = (bs, 0) := by unfold putOf; rw [if_pos h, if_pos hl]
theorem put_bad {ok : Prop} [Decidable ok] {bs : List UInt8} (h : ¬ ok) : putOf ok bs = ([], 2) := if_neg h
theorem put_zero {ok : Prop} [Decidable ok] {bs : List UInt8} (h : (putOf ok bs).2 = 0) : ok ∧ (putOf ok bs).1 = bs := by
 unfold putOf at h ⊢
 split at h
 ·rename_i ho
  rw [if_pos ho]
  split at h
  ·rename_i hl
   rw [if_pos hl]
   exact ⟨ho, rfl⟩
  ·exact absurd h (by decide)
 ·exact absurd h (by decide)
theorem get_back {rd : Rdr α} {ok : α → Prop} [∀ x, Decidable (ok x)] {f : α → List UInt8} {zero x : α} (h : ok x) (hb : Backs rd f x) (hl : (f x).length ≤ 65536) : getOf rd (fun x => putOf (ok x) (f x)) zero (f x) = (x, 0) := by
 unfold getOf
 rw [if_neg (by omega), hb.whole]
 simp only
 rw [put_good h hl]
 simp
theorem get_ways2 {rd : Rdr α} {ok : α → Prop} [∀ x, Decidable (ok x)] {f : α → List UInt8} {zero : α} (s : List UInt8) :
  (getOf rd (fun x => putOf (ok x) (f x)) zero s = ((rd s 0).1, 0) ∧ ok (rd s 0).1 ∧ f (rd s 0).1 = s ∧ s.length ≤ 65536) ∨ getOf rd (fun x => putOf (ok x) (f x)) zero s = (zero, 6) := by
 unfold getOf
 split
 ·exact Or.inr rfl
 ·rename_i hl
  split
  ·rename_i h
   obtain ⟨h1, h2⟩ := h
   obtain ⟨h3, h4⟩ := put_zero h1
   exact Or.inl ⟨rfl, h3, h4.symm.trans h2, by omega⟩
  ·exact Or.inr rfl
end
end Pck
open Go.RowKit
theorem step_append_text {P : Program} {ops : Array Oper} {o : Oper} {a : Act} {w : World} {K : Act → World → Prop} {Q : Exit → Act → World → Prop} {E : Prop} (hgd : o.guard = none) (sl x : Operand) (t u : TypeId)
  (hop : o.op = .call { callee := .builtin .append, args := #[sl, x], argTypes := #[t, u] })
  (base : Nat) (e : TypeId) (i : TypeInfo) (ht : P.underlying t = some (.slice e)) (hu : P.underlying u = some .string) (hi : P.info? e = some i) (hz : i.zero = some (.int .u8 0)) (hsize : i.size = 1) (hby : i.bytes = 1)
  (v : Value) (n : Nat) (xs : List Value) (hs : a.eval sl = v) (hown : w.ownsRow base e 1 v n xs) (s : ByteArray) (hx : a.eval x = .string s)
  (h63 : n + s.size ≤ maxLen) (hbytes : n + s.size ≤ 140737488355328) (hbase : base ≤ w.heap.size)
  (h : ∀ v' w', w'.ownsRow base e 1 v' (n + s.size) (xs ++ Lib.strCells s) → w.grownBy w' v.ownBlock → K (a.put o.dst v') w') :
  if Region.wanted o (yielded ops a.tmps) = true then Oper.wp P o a w K Q else E := by
 rw [if_pos (by simp [Region.wanted, hgd])]
 obtain ⟨v', w', hrun, h1, h2, _⟩ := Lib.run_append_own_string (P := P) w base t u o.type e i ht hu hi hz hsize hby v n xs hown s h63 hbytes hbase
 unfold Oper.wp execOp
 simp only [hop, resolve, invoke, builtin, Sem.run_bind, Sem.run_pure, Result.andThen_ok, List.map_toArray, List.map_cons, List.map_nil, hs, hx, hrun]
 exact h v' w' h1 h2
def numOf (n : Int) (s : ByteArray) (t : Bool) : Int := if t then s.size else n
def strOf (s : ByteArray) (t : Bool) : ByteArray := if t then s else ⟨#[]⟩
theorem parts_any (n : Int) (s : ByteArray) (t : Bool) (w : World) :
  Calls Tryz.prog 213 #[.agg #[.int .i64 n, .string s, .bool t]] w fun e w' => e = .returned (.tuple #[.int .i64 (numOf n s t), .string (strOf s t)]) ∧ Below w.heap.size w w' := by
 cases t
 ·exact parts_n n s w
 ·exact parts_t n s w
theorem own_shape {w : World} {base t size n : Nat} {v : Value} {xs : List Value} (h : w.ownsRow base t size v n xs) : ∃ A cap, v = .slice A n cap := by
 rcases h.2 with ⟨hv, h0⟩ | ⟨g, cap, cur, hv, _⟩
 ·exact ⟨none, 0, by rw [hv, h0]⟩
 ·exact ⟨_, cap, hv⟩
def BLaid (w : World) (base c d : Nat) (l : List UInt8) : Prop :=
 Row w c 170 #[.pointer (some ⟨d, 0, none⟩)] ∧ ∃ v, Row w d 68 #[v] ∧ w.ownsRow base 5 1 v l.length (Lib.byteCells l)
theorem BLaid.below {w w' : World} {base c d : Nat} {l : List UInt8} (h : BLaid w base c d l) (hb : Below w.heap.size w w') : BLaid w' base c d l := by
 obtain ⟨h1, v, h2, h3⟩ := h
 refine ⟨h1.below hb h1.inHeap, v, h2.below hb h2.inHeap, h3.kept (gb_below hb none) ?_⟩
 cases hv : v.ownBlock <;> simp
def FieldPost (w : World) (base c d : Nat) (l : List UInt8) (n : Int) (s : ByteArray) (e : Ending) (w' : World) : Prop :=
 Below base w w' ∧ (if 65536 - (l.length : Int) < s.size then e = .returned (.bool false) else
  e = .returned (.bool (decide ((l.length : Int) + ((Leb.enc n.toNat).length : Int) + (s.size : Int) ≤ 65536))) ∧ BLaid w' base c d (l ++ Leb.enc n.toNat ++ s.data.toList))
theorem field_fin {w w3 : World} {base c d : Nat} {l e : List UInt8} {x : ByteArray} {u0 v3 : Value} (hb : Below base w w3) (hd : base ≤ d)
  (r1 : Row w3 c 170 #[.pointer (some ⟨d, 0, none⟩)]) (r2 : Row w3 d 68 #[u0]) (own : w3.ownsRow base 5 1 v3 (l.length + e.length + x.size) (Lib.byteCells l ++ Lib.byteCells e ++ Lib.strCells x)) :
  Below base w (w3.setCell ⟨d, 0, none⟩ v3) ∧ BLaid (w3.setCell ⟨d, 0, none⟩ v3) base c d (l ++ e ++ x.data.toList) ∧
   (w3.setCell ⟨d, 0, none⟩ v3).cell? ⟨c, 0, none⟩ = some (.pointer (some ⟨d, 0, none⟩)) ∧ (w3.setCell ⟨d, 0, none⟩ v3).cell? ⟨d, 0, none⟩ = some v3 := by
 have hcd : d ≠ c := by
  rintro rfl
  have h1 : w3.heap[d]? = _ := r1
  have h2 : w3.heap[d]? = _ := r2
  rw [h1] at h2
  injection h2 with h2
  injection h2 with _ h2
  exact absurd h2 (by decide)
 have k1 : Row (w3.setCell ⟨d, 0, none⟩ v3) c 170 #[.pointer (some ⟨d, 0, none⟩)] := r1.storedElsewhere (p := ⟨d, 0, none⟩) hcd v3
 have k2 : Row (w3.setCell ⟨d, 0, none⟩ v3) d 68 #[v3] := by simpa using r2.stored 0 v3
 refine ⟨hb.setCell (p := ⟨d, 0, none⟩) hd v3, ⟨k1, v3, k2, ?_⟩, k1.at 0, k2.at 0⟩
 have hlen : (l ++ e ++ x.data.toList).length = l.length + e.length + x.size := by rw [List.length_append, List.length_append, ← Lib.size_eq]
 have hcs : Lib.byteCells (l ++ e ++ x.data.toList) = Lib.byteCells l ++ Lib.byteCells e ++ Lib.strCells x := by rw [Lib.byteCells_append, Lib.byteCells_append, Lib.strCells_eq]
 rw [hlen, hcs]
 exact ownsRow_setCell_other own (a := ⟨d, 0, none⟩) (own_other own r2 (by decide)) v3
theorem layer_field {w : World} {base c d : Nat} {l : List UInt8} (n : Int) (s : ByteArray) (t : Bool) (h : BLaid w base c d l) (hd : base ≤ d) (hB : base ≤ w.heap.size) (hl : l.length ≤ 65536)
    (hn : 0 ≤ numOf n s t) (hn2 : numOf n s t < 9223372036854775808) (hs : (strOf s t).size ≤ 9223372036854775807) :
    Calls Tryz.prog 302 #[.agg #[.int .i64 n, .string s, .bool t], .pointer (some ⟨c, 0, none⟩)] w (FieldPost w base c d l (numOf n s t) (strOf s t)) := by
  obtain ⟨i0, hi, hz0, hz1, hz2⟩ := info_parts byteInfo
  have hparts := fun W => parts_any n s t W
  have Hparts := Lib.hid hparts
  clear hparts
  generalize numOf n s t = q at *
  generalize strOf s t = x at *
  obtain ⟨m, rfl⟩ := Int.eq_ofNat_of_zero_le hn
  have hlaid : ∀ (o : Obj) (W : World), Below (w.alloc o).heap.size (w.alloc o) W → BLaid W base c d l ∧ Below base w W := by
    intro o W hW
    have h1 : Below w.heap.size w (w.alloc o) := (Below.refl _ _).alloc (Nat.le_refl _) o
    have h2 : Below w.heap.size w W := h1.trans (hW.mono (by simp))
    exact ⟨h.below h2, h2.mono hB⟩
  have HL := Lib.hid hlaid
  have Hl := Lib.hid hl
  have Hn2 := Lib.hid hn2
  have Hs := Lib.hid hs
  clear hlaid h hn2 hs hn
  by_cases hbig : 65536 - (l.length : Int) < x.size
  · have Hbig := Lib.hid hbig
    have hb : (65536 : Int) - (l.length : Int) < (x.size : Int) := hbig
    have hl0 : (l.length : Int) ≤ 65536 := by omega
    have hs0 : (x.size : Int) ≤ 9223372036854775807 := by have := Hs.out; omega
    clear hbig hl
    go_enter Tryz.func302, Tryz.ntmps302
    go_wp2_with (go_at_call 213; refine (Hparts.out _).mono ?_; rintro e w1 ⟨rfl, hb1⟩; obtain ⟨⟨r1, v, r2, own⟩, hbel⟩ := HL.out _ w1 hb1; obtain ⟨A, cap, rfl⟩ := own_shape own; have c1 : w1.cell? ⟨c, 0, none⟩ = some (.pointer (some ⟨d, 0, none⟩)) := r1.at 0; have c2 : w1.cell? ⟨d, 0, none⟩ = some (.slice A l.length cap) := r2.at 0)
    go_ret
    refine ⟨hbel, ?_⟩
    rw [if_pos Hbig.out]
    rfl
  · have Hbig := Lib.hid hbig
    have hb : decide ((65536 : Int) - (l.length : Int) < (x.size : Int)) = false := by simpa using hbig
    have hl0 : (l.length : Int) ≤ 65536 := by omega
    clear hbig hl
    go_enter Tryz.func302, Tryz.ntmps302
    go_wp2_with (go_at_call 213; refine (Hparts.out _).mono ?_; rintro e w1 ⟨rfl, hb1⟩; obtain ⟨⟨r1, v, r2, own⟩, hbel⟩ := HL.out _ w1 hb1; obtain ⟨A, cap, rfl⟩ := own_shape own; have c1 : w1.cell? ⟨c, 0, none⟩ = some (.pointer (some ⟨d, 0, none⟩)) := r1.at 0; have c2 : w1.cell? ⟨d, 0, none⟩ = some (.slice A l.length cap) := r2.at 0)
    have hen := (Leb.enc_len m).2
    have hx9 : l.length + (Leb.enc m).length + x.size ≤ 200000 := by have := Hbig.out; omega
    have e63 : l.length + (Leb.enc m).length + x.size ≤ maxLen := by unfold maxLen; omega
    have e47 : l.length + (Leb.enc m).length + x.size ≤ 140737488355328 := by omega
    have hm63 : m < 9223372036854775808 := by have := Hn2.out; omega
    have hz1' : base ≤ w1.heap.size := by have := hbel.size; omega
    have E63 := Lib.hid e63
    have E47 := Lib.hid e47
    have M63 := Lib.hid hm63
    clear hx9 e63 e47 hm63 hb hl0 hen
    go_region_law
      (first
        | (refine step_append_text (by rfl) _ _ _ _ (by rfl) base 5 i0 Tryz.underlying68 Tryz.underlying9 hi hz0 hz1 hz2 v2 _ _ (by rfl) own2 x (by rfl) E63.out E47.out (Nat.le_trans hz1' hb2.size) ?_
           intro v3 w3 own3 hg3
           obtain ⟨A3, cap3, rfl⟩ := own_shape own3
           have hsp3 := Spares.grown own2 hg3
           have hb3 : Below base w2 w3 := (Below.refl _ _).grown hg3 (Nat.le_trans hz1' hb2.size) (fun k hk => own_from own2 k hk)
           have c4 : w3.cell? ⟨c, 0, none⟩ = some (.pointer (some ⟨d, 0, none⟩)) := (hsp3 c _ _ (by decide) (hsp2 c _ _ (by decide) r1)).at 0
           have d4 : w3.cell? ⟨d, 0, none⟩ = some (.slice A l.length cap) := (hsp3 d _ _ (by decide) (hsp2 d _ _ (by decide) r2)).at 0
           have e4 := (hsp3 d _ _ (by decide) (hsp2 d _ _ (by decide) r2)).free 0)
        | (go_simp
           go_at_call 303
           refine (append_number (w := w1.drew) (base := base) (n := l.length) (xs := Lib.byteCells l) own Hl.out M63.out hz1').mono ?_
           rintro e w2 ⟨v2, rfl, own2, hb2, hsp2⟩
           have c3 : w2.cell? ⟨c, 0, none⟩ = some (.pointer (some ⟨d, 0, none⟩)) := (hsp2 c _ _ (by decide) r1).at 0
           have d3 : w2.cell? ⟨d, 0, none⟩ = some (.slice A l.length cap) := (hsp2 d _ _ (by decide) r2).at 0))
    all_goals
      obtain ⟨hB9, hL9, c9, d9⟩ := field_fin ((hbel.drew.trans hb2).trans hb3) hd (hsp3 c _ _ (by decide) (hsp2 c _ _ (by decide) r1)) (hsp3 d _ _ (by decide) (hsp2 d _ _ (by decide) r2)) own3
      have HB9 := Lib.hid hB9
      clear hb3 hsp3 c4 d4 e4 own3 hg3 c3 d3 own2 hb2 hsp2 hbel own hB9
      go_wp2
      go_ret
      refine ⟨HB9.out, ?_⟩
      rw [if_neg (by have := Hbig.out; omega)]
      exact ⟨rfl, hL9⟩
open Go.RowKit
structure Fl where
 num : Int
 txt : ByteArray
 isT : Bool
def Fl.head (f : Fl) : Int := numOf f.num f.txt f.isT
def Fl.body (f : Fl) : ByteArray := strOf f.txt f.isT
def Fl.bytes (f : Fl) : List UInt8 := Leb.enc f.head.toNat ++ f.body.data.toList
def allBytes (fs : List Fl) : List UInt8 := fs.flatMap Fl.bytes
def FieldsAt (w : World) (b off : Nat) (fs : List Fl) : Prop := ∀ i f, fs[i]? = some f →
 w.cell? ⟨b, off + i * 3, none⟩ = some (.int .i64 f.num) ∧ w.cell? ⟨b, off + i * 3 + 1, none⟩ = some (.string f.txt) ∧ w.cell? ⟨b, off + i * 3 + 2, none⟩ = some (.bool f.isT)
theorem FieldsAt.below {w w' : World} {b off B : Nat} {fs : List Fl} (h : FieldsAt w b off fs) (hb : Below B w w') (hB : b < B) : FieldsAt w' b off fs := fun i f hf => by
 obtain ⟨h1, h2, h3⟩ := h i f hf
 exact ⟨(hb.cell (p := ⟨b, _, none⟩) hB).trans h1, (hb.cell (p := ⟨b, _, none⟩) hB).trans h2, (hb.cell (p := ⟨b, _, none⟩) hB).trans h3⟩
def layOf (fs : List Fl) : List UInt8 × Int :=
 if fs.any (fun f => decide (f.head < 0)) then ([], 3) else if 65536 < (allBytes fs).length then ([], 4) else (allBytes fs, 0)
def Fits (fs : List Fl) : Prop := ∀ (i : Nat) (f : Fl), fs[i]? = some f → f.head < 9223372036854775808 ∧ f.body.size ≤ 9223372036854775807
theorem parts_fl (f : Fl) (w : World) :
  Calls Tryz.prog 213 #[.agg #[.int .i64 f.num, .string f.txt, .bool f.isT]] w fun e w' => e = .returned (.tuple #[.int .i64 f.head, .string f.body]) ∧ Below w.heap.size w w' :=
 parts_any f.num f.txt f.isT w
theorem layer_any (d : Nat) (w : World) :
  Calls Tryz.prog 214 #[.pointer (some ⟨d, 0, none⟩)] w fun e w' =>
   e = .returned (.func (.func 302) #[] #[.pointer (some ⟨w.heap.size, 0, none⟩)]) ∧ w.alloc (.cells #[.pointer (some ⟨d, 0, none⟩)] 170) = w' := by
 go_enter Tryz.func214, Tryz.ntmps214
 go_wp2
 go_ret
 exact ⟨rfl, rfl⟩
theorem run_text {w : World} {base : Nat} {v : Value} {l : List UInt8} (h : w.ownsRow base 5 1 v l.length (Lib.byteCells l)) :
  (convert 68 9 v).run Tryz.prog w = .ok (.string ⟨l.toArray⟩) w := by
 rcases h.2 with ⟨hv, h0⟩ | ⟨g, cap, cur, hv, _⟩
 ·have : l = [] := List.eq_nil_of_length_eq_zero h0
  subst this
  rw [hv]
  exact Lib.run_convert_nil_bytes (P := Tryz.prog) w 68 9 5 0 Tryz.underlying68 Tryz.underlying5 Tryz.underlying9
 ·have hcells := h.cells (g := g) (by rw [hv]; rfl)
  rw [hv]
  refine run_convert_bytes_back (P := Tryz.prog) w 68 9 5 ⟨g, 0, none⟩ cap l Tryz.underlying68 Tryz.underlying5 Tryz.underlying9 (fun j hj => hcells j _ ?_)
  simp [Lib.byteCells, hj]
theorem allBytes_snoc (fs : List Fl) (k : Nat) (f : Fl) (hf : fs[k]? = some f) : allBytes (fs.take (k + 1)) = allBytes (fs.take k) ++ Leb.enc f.head.toNat ++ f.body.data.toList := by
 obtain ⟨hl, he⟩ := List.getElem?_eq_some_iff.1 hf
 rw [List.take_succ_eq_append_getElem hl, he]
 simp [allBytes, Fl.bytes, List.append_assoc]
theorem allBytes_le (fs : List Fl) (k : Nat) : (allBytes (fs.take k)).length ≤ (allBytes fs).length := by
 have : allBytes fs = allBytes (fs.take k) ++ allBytes (fs.drop k) := by
  unfold allBytes
  rw [← List.flatMap_append, List.take_append_drop]
 rw [this, List.length_append]
 omega
def LayPost (w : World) (fs : List Fl) (e : Ending) (w' : World) : Prop :=
 e = .returned (.tuple #[.string ⟨(layOf fs).1.toArray⟩, .int .i64 (layOf fs).2]) ∧ Below w.heap.size w w'
def Fine (fs : List Fl) (k : Nat) : Prop := ∀ j f, fs[j]? = some f → j < k → 0 ≤ f.head
theorem fine_all {fs : List Fl} (h : Fine fs fs.length) : fs.any (fun f => decide (f.head < 0)) = false := by
 rw [List.any_eq_false]
 intro f hf
 obtain ⟨i, hi, he⟩ := List.mem_iff_getElem.1 hf
 have := h i f (by rw [List.getElem?_eq_getElem hi, he]) hi
 simp; omega
def LayRel (w : World) (base c d : Nat) (fs : List Fl) (k : Nat) (wr : World) : Prop :=
 Below base w wr ∧ BLaid wr base c d (allBytes (fs.take k)) ∧ (allBytes (fs.take k)).length ≤ 65536
theorem LayRel.new {w wr : World} {base c d k : Nat} {fs : List Fl} (h : LayRel w base c d fs k wr) (hB : base ≤ w.heap.size) (o : Obj) : LayRel w base c d fs k (wr.alloc o) :=
 ⟨h.1.alloc (Nat.le_trans hB h.1.size) o, h.2.1.below ((Below.refl _ _).alloc (Nat.le_refl _) o), h.2.2⟩
theorem layer_yes {w W : World} {base c d k : Nat} {fs : List Fl} {f : Fl} (h : LayRel w base c d fs k W) (hd : base ≤ d) (hB : base ≤ w.heap.size) (hf : fs[k]? = some f) (hfit : Fits fs) (hpos : 0 ≤ f.head)
  (hle : (allBytes (fs.take (k + 1))).length ≤ 65536) :
  Calls Tryz.prog 302 #[.agg #[.int .i64 f.num, .string f.txt, .bool f.isT], .pointer (some ⟨c, 0, none⟩)] W fun e w' => e = .returned (.bool true) ∧ LayRel w base c d fs (k + 1) w' := by
 obtain ⟨h1, h2, h3⟩ := h
 have hs := allBytes_snoc fs k f hf
 have hlen : (allBytes (fs.take (k + 1))).length = (allBytes (fs.take k)).length + (Leb.enc f.head.toNat).length + f.body.size := by
  rw [hs, List.length_append, List.length_append, ← Lib.size_eq]
 refine (layer_field f.num f.txt f.isT h2 hd (Nat.le_trans hB h1.size) h3 hpos (hfit k f hf).1 (hfit k f hf).2).mono ?_
 rintro e w' ⟨k1, k2⟩
 have k2' : if 65536 - ((allBytes (fs.take k)).length : Int) < f.body.size then e = .returned (.bool false) else
  e = .returned (.bool (decide (((allBytes (fs.take k)).length : Int) + ((Leb.enc f.head.toNat).length : Int) + (f.body.size : Int) ≤ 65536))) ∧ BLaid w' base c d (allBytes (fs.take k) ++ Leb.enc f.head.toNat ++ f.body.data.toList) := k2
 rw [if_neg (by omega)] at k2'
 obtain ⟨k3, k4⟩ := k2'
 refine ⟨?_, h1.trans k1, by rw [hs]; exact k4, hle⟩
 rw [k3, decide_eq_true (by omega)]
theorem layer_no {w W : World} {base c d k : Nat} {fs : List Fl} {f : Fl} (h : LayRel w base c d fs k W) (hd : base ≤ d) (hB : base ≤ w.heap.size) (hf : fs[k]? = some f) (hfit : Fits fs) (hpos : 0 ≤ f.head)
  (hle : 65536 < (allBytes (fs.take (k + 1))).length) :
  Calls Tryz.prog 302 #[.agg #[.int .i64 f.num, .string f.txt, .bool f.isT], .pointer (some ⟨c, 0, none⟩)] W fun e w' => e = .returned (.bool false) ∧ Below base w w' := by
 obtain ⟨h1, h2, h3⟩ := h
 have hs := allBytes_snoc fs k f hf
 have hlen : (allBytes (fs.take (k + 1))).length = (allBytes (fs.take k)).length + (Leb.enc f.head.toNat).length + f.body.size := by
  rw [hs, List.length_append, List.length_append, ← Lib.size_eq]
 refine (layer_field f.num f.txt f.isT h2 hd (Nat.le_trans hB h1.size) h3 hpos (hfit k f hf).1 (hfit k f hf).2).mono ?_
 rintro e w' ⟨k1, k2⟩
 have k2' : if 65536 - ((allBytes (fs.take k)).length : Int) < f.body.size then e = .returned (.bool false) else
  e = .returned (.bool (decide (((allBytes (fs.take k)).length : Int) + ((Leb.enc f.head.toNat).length : Int) + (f.body.size : Int) ≤ 65536))) ∧ BLaid w' base c d (allBytes (fs.take k) ++ Leb.enc f.head.toNat ++ f.body.data.toList) := k2
 refine ⟨?_, h1.trans k1⟩
 split at k2'
 ·exact k2'
 ·rw [k2'.1, decide_eq_false (by omega)]
theorem lay_any {w : World} {b off cap : Nat} {fs : List Fl} (h : FieldsAt w b off fs) (hb : b < w.heap.size) (hlen : fs.length ≤ 70000) (hfit : Fits fs) :
  Calls Tryz.prog 119 #[.slice (some ⟨b, off, none⟩) fs.length cap] w (LayPost w fs) := by
 have Hf := Lib.hid h
 have Hfit := Lib.hid hfit
 have hlen' : (fs.length : Int) ≤ 70000 := by omega
 clear h hlen hfit
 go_enter Tryz.func119, Tryz.ntmps119
 go_wp2
 go_loopw [14] (fun i wr => ∃ k : Nat, k ≤ fs.length ∧ i = .int .i64 k ∧ Below w.heap.size w wr ∧ Fine fs k) (fun i _ => fs.length - (intOf i).toNat)
 case atStart => exact ⟨0, Nat.zero_le _, rfl, Below.refl _ _, fun j f _ hj => absurd hj (by omega)⟩
 case round =>
  obtain ⟨k, hk, rfl, hbel, hfine⟩ := hrel
  by_cases hlt : k < fs.length
  ·obtain ⟨f, hf⟩ : ∃ f, fs[k]? = some f := ⟨fs[k], List.getElem?_eq_getElem hlt⟩
   obtain ⟨c0, c1, c2⟩ := (Hf.out.below hbel hb) k f hf
   have HF := Lib.hid hf
   clear hf
   have hbn : Below w.heap.size w (wr.alloc (.cells #[.int .i64 f.num, .string f.txt, .bool f.isT] 164)) := hbel.alloc hbel.size _
   have Hbn := Lib.hid hbn
   clear hbn
   by_cases hneg : f.head < 0
   ·have hfin : Hid (layOf fs = ([], 3)) := by
     unfold layOf
     rw [if_pos]
     ·rfl
     ·exact List.any_eq_true.2 ⟨f, List.mem_of_getElem? HF.out, by simpa using hneg⟩
    go_wp2_with (go_at_call 213; refine (parts_fl f _).mono ?_; rintro e w1 ⟨rfl, hb1⟩)
    go_ret2
    exact ⟨by rw [hfin.out]; rfl, Hbn.out.trans (hb1.mono Hbn.out.size)⟩
   ·have hpos : 0 ≤ f.head := by omega
    have hfine' : Fine fs (k + 1) := by
     intro j g hg hj
     by_cases hjk : j = k
     ·subst hjk
      rw [HF.out] at hg
      injection hg with hg
      rw [← hg]; exact hpos
     ·exact hfine j g hg (by omega)
    clear hneg hfine
    go_wp2_with (go_at_call 213; refine (parts_fl f _).mono ?_; rintro e w1 ⟨rfl, hb1⟩)
    go_roundw
    case rel => exact ⟨k + 1, by omega, by go_num, Hbn.out.trans (hb1.mono Hbn.out.size), hfine'⟩
    case measure => simp [intOf]; omega
  ·obtain rfl : k = fs.length := by omega
   obtain ⟨wo, rfl⟩ : ∃ wo : World, wo = wr := ⟨_, rfl⟩
   have hfine2 := fine_all hfine
   have Hfine2 := Lib.hid hfine2
   have Hfine := Lib.hid hfine
   clear hfine hfine2
   have hsz := hbel.size
   -- what the second loop begins with
   have hstart : LayRel w w.heap.size (wo.heap.size + 1) wo.heap.size fs 0 ((wo.alloc (.cells #[.slice none 0 0] 68)).alloc (.cells #[.pointer (some ⟨wo.heap.size, 0, none⟩)] 170)) := by
    refine ⟨(hbel.alloc hbel.size _).alloc (by simp; omega) _, ⟨?_, .slice none 0 0, (Row.made wo _ _).behindNew _, ?_⟩, by simp [allBytes]⟩
    ·have := Row.made (wo.alloc (.cells #[.slice none 0 0] 68)) 170 #[.pointer (some ⟨wo.heap.size, 0, none⟩)]
     simpa using this
    ·simpa [allBytes, Lib.byteCells] using World.ownsRow_nil _ _ _ _
   have Hstart := Lib.hid hstart
   clear hstart
   go_wp2_with (go_at_call 214; refine (layer_any _ _).mono ?_; rintro e w1 ⟨rfl, rfl⟩)
   go_loopw [29] (fun i wx => ∃ j : Nat, j ≤ fs.length ∧ i = .int .i64 j ∧ LayRel w w.heap.size (wo.heap.size + 1) wo.heap.size fs j wx) (fun i _ => fs.length - (intOf i).toNat)
   case atStart => exact ⟨0, Nat.zero_le _, rfl, Hstart.out⟩
   case round =>
    obtain ⟨j, hj, rfl, hrel2⟩ := hrel
    by_cases hlt2 : j < fs.length
    ·obtain ⟨f, hf⟩ : ∃ f, fs[j]? = some f := ⟨fs[j], List.getElem?_eq_getElem hlt2⟩
     have hpos : 0 ≤ f.head := Hfine.out j f hf hlt2
     obtain ⟨c0, c1, c2⟩ := (Hf.out.below hrel2.1 hb) j f hf
     have HF := Lib.hid hf
     clear hf
     have Hrel := Lib.hid (hrel2.new (Nat.le_refl _) (.cells #[.int .i64 f.num, .string f.txt, .bool f.isT] 164))
     by_cases hle : (allBytes (fs.take (j + 1))).length ≤ 65536
     ·have Hle := Lib.hid hle
      clear hle hrel2
      go_wp2_with (go_at_call 302; refine (layer_yes Hrel.out hsz (Nat.le_refl _) HF.out Hfit.out hpos Hle.out).mono ?_; rintro e w1 ⟨rfl, hr1⟩)
      go_roundw
      case rel => exact ⟨j + 1, by omega, by go_num, hr1⟩
      case measure => simp [intOf]; omega
     ·have Hle := Lib.hid (show 65536 < (allBytes (fs.take (j + 1))).length by omega)
      clear hle hrel2
      have hfin : Hid (layOf fs = ([], 4)) := by
       have := allBytes_le fs (j + 1)
       have := Hle.out
       unfold layOf
       rw [if_neg (by rw [Hfine2.out]; simp), if_pos (by omega)]
       rfl
      go_wp2_with (go_at_call 302; refine (layer_no Hrel.out hsz (Nat.le_refl _) HF.out Hfit.out hpos Hle.out).mono ?_; rintro e w1 ⟨rfl, hr1⟩)
      go_ret2
      exact ⟨by rw [hfin.out]; rfl, hr1⟩
    ·obtain rfl : j = fs.length := by omega
     obtain ⟨hb2, ⟨_, v, r2, own⟩, hle⟩ := hrel2
     have htext := run_text own
     have cd : wr.cell? ⟨wo.heap.size, 0, none⟩ = some v := r2.at 0
     have hfin : Hid (layOf fs = (allBytes fs, 0)) := by
      rw [List.take_length] at hle
      unfold layOf
      rw [if_neg (by rw [Hfine2.out]; simp), if_neg (by omega)]
      rfl
     clear own r2 hle
     go_wp2
     go_ret2
     exact ⟨by rw [hfin.out]; rfl, hb2⟩
end Go.Proofs.YtpafpegcodempaaGreat
