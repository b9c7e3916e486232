import Derived.Test.YtpafpegcodempaaCom1
import Derived.Laws.ResultCell
import Derived.OwnWalk
import Derived.Outline
set_option maxRecDepth 100000
set_option linter.all false
set_option maxHeartbeats 12800000
namespace Go.Proofs.Ytpafpegcodempaa
open Go.RowKit
theorem field_n (n : Int) (w : World) :
  Calls Try.prog 45 #[.int .i64 n] w fun e w' => e = .returned (.agg #[.int .i64 n, .string ⟨#[]⟩, .bool false]) ∧ Below w.heap.size w w' := by
 go_enter Try.func45, Try.ntmps45
 go_wp2
 refine bodyPost_ret (v := .agg #[.int .i64 n, .string ⟨#[]⟩, .bool false]) (by simp [results, Try.results45, go_sem]) rfl ⟨rfl, (Below.refl _ _).alloc (Nat.le_refl _) _⟩
theorem field_t (s : ByteArray) (w : World) :
  Calls Try.prog 46 #[.string s] w fun e w' => e = .returned (.agg #[.int .i64 0, .string s, .bool true]) ∧ Below w.heap.size w w' := by
 go_enter Try.func46, Try.ntmps46
 go_wp2
 refine bodyPost_ret (v := .agg #[.int .i64 0, .string s, .bool true]) (by simp [results, Try.results46, go_sem]) rfl ⟨rfl, (Below.refl _ _).alloc (Nat.le_refl _) _⟩
theorem parts_n (n : Int) (s : ByteArray) (w : World) :
  Calls Try.prog 54 #[.agg #[.int .i64 n, .string s, .bool false]] w fun e w' => e = .returned (.tuple #[.int .i64 n, .string ⟨#[]⟩]) ∧ Below w.heap.size w w' := by
 go_enter Try.func54, Try.ntmps54
 go_wp2
 go_ret2
 exact ⟨rfl, by repeat (first | exact Below.refl _ _ | apply Below.drew | refine Below.alloc ?_ (Nat.le_refl _) _)⟩
theorem parts_t (n : Int) (s : ByteArray) (w : World) :
  Calls Try.prog 54 #[.agg #[.int .i64 n, .string s, .bool true]] w fun e w' => e = .returned (.tuple #[.int .i64 s.size, .string s]) ∧ Below w.heap.size w w' := by
 go_enter Try.func54, Try.ntmps54
 go_wp2
 go_quiet (fail)
 go_wp2
 go_ret2
 exact ⟨rfl, ⟨rfl, rfl, rfl, by simp, fun k hk => Below.heap_alloc _ _ _ hk⟩⟩
def Spares (t : TypeId) (w w' : World) : Prop := ∀ (b : Nat) (u : TypeId) (cs : Array Value), u ≠ t → Row w b u cs → Row w' b u cs
theorem Spares.same (t : TypeId) (w : World) : Spares t w w := fun _ _ _ _ h => h
theorem Spares.then_ {t : TypeId} {a b c : World} (h : Spares t a b) (k : Spares t b c) : Spares t a c := fun i u cs hu hr => k i u cs hu (h i u cs hu hr)
theorem Spares.new {t : TypeId} {a w : World} (h : Spares t a w) (o : Obj) : Spares t a (w.alloc o) := fun i u cs hu hr => (h i u cs hu hr).behindNew o
theorem Spares.below {t : TypeId} {w w' : World} (h : Below w.heap.size w w') : Spares t w w' := fun _ _ _ _ hr => hr.below h hr.inHeap
theorem own_other {w : World} {base : Nat} {t : TypeId} {size n : Nat} {v : Value} {xs : List Value} (h : w.ownsRow base t size v n xs) {b : Nat} {u : TypeId} {cs : Array Value} (hr : Row w b u cs) (hu : u ≠ t) : v.ownBlock ≠ some b := by
 rcases h.2 with ⟨hv, _⟩ | ⟨g, cap, cur, hv, _, hh, _⟩
 ·rw [hv]; simp [Value.ownBlock]
 ·rw [hv]
  intro he
  have e : g = b := by simpa [Value.ownBlock] using he
  rw [e] at hh
  have h2 : w.heap[b]? = some (Obj.cells cs u (0, 0)) := hr
  rw [h2] at hh
  injection hh with hh
  injection hh with _ ht
  exact hu ht
theorem Spares.grown {t : TypeId} {w w' : World} {base size n : Nat} {v : Value} {xs : List Value} (h : w.ownsRow base t size v n xs) (hg : w.grownBy w' v.ownBlock) : Spares t w w' :=
 fun _ _ _ hu hr => hr.grown hg (own_other h hr hu)
theorem own_from {w : World} {base t size n : Nat} {v : Value} {xs : List Value} (h : w.ownsRow base t size v n xs) : ∀ k, v.ownBlock = some k → base ≤ k := by
 intro k hk
 rcases h.2 with ⟨hv, _⟩ | ⟨g, cap, cur, hv, hb, _⟩
 ·rw [hv] at hk; simp [Value.ownBlock] at hk
 ·rw [hv] at hk
  have : g = k := by simpa [Value.ownBlock] using hk
  omega
def LaidPost (w : World) (base : Nat) (n : Nat) (xs : List Value) (news : List UInt8) (e : Ending) (w' : World) : Prop :=
 ∃ v, e = .returned v ∧ w'.ownsRow base 5 1 v (n + news.length) (xs ++ Lib.byteCells news) ∧ Below base w w' ∧ Spares 5 w w'
def NumLoop (w : World) (base n : Nat) (xs : List Value) (l : List UInt8) (v : Value) (m : Nat) (wr : World) : Prop :=
 ∃ (f : Nat) (pre : List UInt8), m < 128 ^ (f + 1) ∧ f ≤ 8 ∧ pre ++ Leb.encF f m = l ∧ wr.ownsRow base 5 1 v (n + pre.length) (xs ++ Lib.byteCells pre) ∧ Below base w wr ∧ Spares 5 w wr
theorem num_more {w wr w2 : World} {base n m' : Nat} {xs : List Value} {l pre : List UInt8} {f : Nat} {v v' : Value} (hbig : 127 < m') (hf : m' < 128 ^ (f + 1)) (hf8 : f ≤ 8) (hpre : pre ++ Leb.encF f m' = l)
  (hB : base ≤ w.heap.size) (hbel : Below base w wr) (hsp : Spares 5 w wr) (hown : wr.ownsRow base 5 1 v (n + pre.length) (xs ++ Lib.byteCells pre)) {o : Obj}
  (hown' : w2.ownsRow base 5 1 v' (n + pre.length + 1) (xs ++ (Lib.byteCells pre ++ [Value.int .u8 ((m' % 128 + 128 : Nat) : Int)]))) (hg : (wr.alloc o).grownBy w2 v.ownBlock) :
  NumLoop w base n xs l v' (m' / 128) w2 := by
 cases f with
 | zero => simp at hf; omega
 | succ f =>
  have hs := hbel.size
  refine ⟨f, pre ++ [UInt8.ofNat (m' % 128 + 128)], ?_, by omega, ?_, ?_, ?_, ?_⟩
  ·rw [Nat.div_lt_iff_lt_mul (by omega), ← Nat.pow_succ]; exact hf
  ·rw [← hpre, Leb.encF, if_neg (by omega)]; simp
  ·have e : Lib.byteCells (pre ++ [UInt8.ofNat (m' % 128 + 128)]) = Lib.byteCells pre ++ [Value.int .u8 ((m' % 128 + 128 : Nat) : Int)] := by
    rw [Lib.byteCells_append]
    simp only [Lib.byteCells, List.map_cons, List.map_nil, Leb.toNat_ofNat (m' % 128 + 128) (by omega)]
   rw [e, List.length_append]
   exact hown'
  ·exact (hbel.alloc (by omega) o).grown hg (by simp; omega) (fun k hk => own_from hown k hk)
  ·exact (hsp.new o).then_ (Spares.grown (hown.alloc o) hg)
theorem num_done {w wr w2 : World} {base n m' : Nat} {xs : List Value} {l pre : List UInt8} {f : Nat} {v v' : Value} (hbig : ¬ 127 < m') (hpre : pre ++ Leb.encF f m' = l)
  (hB : base ≤ w.heap.size) (hbel : Below base w wr) (hsp : Spares 5 w wr) (hown : wr.ownsRow base 5 1 v (n + pre.length) (xs ++ Lib.byteCells pre)) {o : Obj}
  (hown' : w2.ownsRow base 5 1 v' (n + pre.length + 1) (xs ++ (Lib.byteCells pre ++ [Value.int .u8 (m' : Int)]))) (hg : (wr.alloc o).grownBy w2 v.ownBlock) :
  LaidPost w base n xs l (.returned v') w2 := by
 have hs := hbel.size
 have he : Leb.encF f m' = [UInt8.ofNat m'] := by
  cases f with
  | zero => rfl
  | succ f => rw [Leb.encF, if_pos (by omega)]
 rw [he] at hpre
 refine ⟨v', rfl, ?_, (hbel.alloc (by omega) o).grown hg (by simp; omega) (fun k hk => own_from hown k hk), (hsp.new o).then_ (Spares.grown (hown.alloc o) hg)⟩
 have e : Lib.byteCells l = Lib.byteCells pre ++ [Value.int .u8 (m' : Int)] := by
  rw [← hpre, Lib.byteCells_append]
  simp only [Lib.byteCells, List.map_cons, List.map_nil, Leb.toNat_ofNat m' (by omega)]
 rw [e, ← hpre, List.length_append]
 exact hown'
theorem byteInfo : (Try.prog.info? 5).map (fun i => (i.zero, i.size, i.bytes)) = some (some (.int .u8 0), 1, 1) := by kernel_rfl
theorem append_number {w : World} {base n m : Nat} {v : Value} {xs : List Value} (hown : w.ownsRow base 5 1 v n xs) (hn : n ≤ 65536) (hm : m < 9223372036854775808) (hB : base ≤ w.heap.size) :
  Calls Try.prog 68 #[v, .int .i64 m] w (LaidPost w base n xs (Leb.enc m)) := by
 obtain ⟨i0, hi, hz0, hz1, hz2⟩ := info_parts byteInfo
 have h0 : NumLoop w base n xs (Leb.enc m) v m w := ⟨8, [], by simpa using hm, by omega, rfl, by simpa [Lib.byteCells] using hown, Below.refl _ _, Spares.same _ _⟩
 clear hown
 go_enter Try.func68, Try.ntmps68
 go_wp2_with fail
 go_loopw [0, 1] (fun b x wr => ∃ m' : Nat, x = .int .i64 m' ∧ m' ≤ m ∧ NumLoop w base n xs (Leb.enc m) b m' wr) (fun _ x _ => (intOf x).toNat)
 case atStart => exact ⟨m, rfl, Nat.le_refl _, h0⟩
 case round =>
  obtain ⟨m', rfl, hm', f, pre, hf, hf8, hpre, hown, hbel, hsp⟩ := hrel
  have Hf := Lib.hid hf
  have Hpre := Lib.hid hpre
  have hpl : pre.length ≤ 9 := by
   have := (Leb.enc_len m).2
   rw [← hpre, List.length_append] at this
   omega
  have Hsz := Lib.hid hbel.size
  clear hf hpre
  by_cases hbig : 127 < m'
  ·obtain ⟨d, hd⟩ : ∃ d : Nat, d = m' % 128 := ⟨_, rfl⟩
   obtain ⟨g, hg⟩ : ∃ g : Nat, g = d + 128 := ⟨_, rfl⟩
   have hd1 : d < 128 := by omega
   have ha : bits .and .i64 (m' : Int) 127 = (d : Int) := by rw [i64_and127, hd]; rfl
   have ho : bits .or .u8 (d : Int) 128 = (g : Int) := by rw [u8_or128_right _ (by omega) (by omega), hg]; rfl
   have Hd := Lib.hid hd
   have Hg := Lib.hid hg
   clear hd hg
   go_wp2_with (at_builtin; refine wpList_append_own _ rfl _ _ 75 rfl base 5 i0 (.int .u8 0) 1 1 Try.underlying75 hi hz0 hz1 hz2 rfl (by decide) _ _ _ rfl (hown.alloc _) ⟨wr.heap.size, 0, none⟩ 1 1 [.int .u8 (g : Int)] rfl rfl ?c1 ?c2 ?c3 ?c4 ?c5 ?_)
   case c1 =>
    intro j u hj
    match j, hj with
    | 0, hj => simp at hj; subst hj; simp [Addr.add]
   case c2 => intro u hu; simp at hu; subst hu; rfl
   case c3 => unfold maxLen; omega
   case c4 => omega
   case c5 => have := Hsz.out; simp; omega
   intro v' w2 hown' hgrow' _
   have hstep := num_more hbig Hf.out hf8 Hpre.out hB hbel hsp hown (v' := v') (by rw [← Hd.out, ← Hg.out]; simpa using hown') hgrow'
   clear hown' hgrow' hown
   go_wp2
   go_roundw
   case rel => exact ⟨m' / 128, by simp, by omega, hstep⟩
   case measure => simp [intOf]; omega
  ·go_wp2_with (at_builtin; refine wpList_append_own _ rfl _ _ 75 rfl base 5 i0 (.int .u8 0) 1 1 Try.underlying75 hi hz0 hz1 hz2 rfl (by decide) _ _ _ rfl (hown.alloc _) ⟨wr.heap.size, 0, none⟩ 1 1 [.int .u8 (m' : Int)] rfl rfl ?d1 ?d2 ?d3 ?d4 ?d5 ?_)
   case d1 =>
    intro j u hj
    match j, hj with
    | 0, hj => simp at hj; subst hj; simp [Addr.add]
   case d2 => intro u hu; simp at hu; subst hu; rfl
   case d3 => unfold maxLen; omega
   case d4 => omega
   case d5 => have := Hsz.out; simp; omega
   intro v' w2 hown' hgrow' _
   have hstep := num_done hbig Hpre.out hB hbel hsp hown (v' := v') (by simpa using hown') hgrow'
   clear hown' hgrow' hown
   go_wp2
   go_ret
   exact hstep
open Go.RowKit
theorem byteCellsOf : Try.prog.cellsOf 5 = 1 := by kernel_rfl
theorem inner_clone (s : ByteArray) (w : World) (hlim : s.size ≤ 281474976710656) :
  Calls Try.prog 78 #[.string s] w fun e w' => e = .returned (.string s) ∧ Below w.heap.size w w' := by
 rcases Nat.eq_zero_or_pos s.size with hz | hpos
 ·obtain rfl : s = ⟨#[]⟩ := ByteArray.ext (Array.eq_empty_of_size_eq_zero hz)
  clear hz
  go_enter Try.func78, Try.ntmps78
  go_wp2
  go_ret
  exact ⟨rfl, Below.refl _ _⟩
 ·obtain ⟨info, hinfo, hzero, hsize, hbytes⟩ := info_parts byteInfo
  -- the row that is made, by a name of its own
  obtain ⟨blank, hblank⟩ : ∃ blank, blank = madeCells (Value.int .u8 0).cells (((s.size : Nat) : Int).toNat * info.size) := ⟨_, rfl⟩
  have hmake : ∀ V : World, (Instr.makeSlice 75 (.int .i64 (s.size : Int)) (.int .i64 (s.size : Int))).run Try.prog V = .ok (.slice (some ⟨V.heap.size, 0, none⟩) s.size s.size) (V.alloc (.cells blank 5)) := by
   intro V
   have := run_make (P := Try.prog) V 75 5 info (.int .u8 0) Try.underlying75 hinfo hzero .i64 .i64 (s.size : Int) (s.size : Int) (by omega) (by omega) (by rw [hbytes]; omega) (by omega)
   rw [← hblank] at this
   simpa using this
  have hbs : blank.size = s.size := by rw [hblank, size_madeCells, hsize]; simp
  clear hblank
  generalize hw1 : w.alloc (.cells blank 5) = w1
  have hrow : w1.heap[w.heap.size]? = some (.cells blank 5 (0, 0)) := by rw [← hw1]; exact heap_alloc_new w _
  have hcopy := Lib.run_copy_row_string (P := Try.prog) w1 75 9 3 5 w.heap.size 0 s.size s.size s blank 5 Try.underlying75
   (by rw [hinfo]; simp [hsize]) hrow (Nat.le_refl _) (by omega)
  obtain ⟨full, hfull⟩ : ∃ full, full = (blank.toList.take 0 ++ Lib.byteCells s.data.toList ++ blank.toList.drop (0 + s.size)).toArray := ⟨_, rfl⟩
  rw [← hfull] at hcopy
  have hlist : full.toList = Lib.byteCells s.data.toList := by
   rw [hfull]
   simp only [List.take_zero, List.nil_append, Nat.zero_add]
   rw [List.drop_of_length_le (by rw [Array.length_toList]; omega), List.append_nil]
  have hfs : full.size = s.size := by rw [← Array.length_toList, hlist, Lib.byteCells_length, ← Lib.size_eq]
  clear hfull
  have hrow2 : (w1.setRow w.heap.size full).heap[w.heap.size]? = some (.cells full 5 (0, 0)) := setRow_heap _ _ blank _ _ _ hrow
  have hne : s.data.toList ≠ [] := by
   intro h
   have := Lib.size_eq s
   rw [h] at this
   simp only [List.length_nil] at this
   omega
  have hstr := Lib.run_unsafeString_row (P := Try.prog) (w1.setRow w.heap.size full) 117 3 9 5 Try.underlying117 byteCellsOf w.heap.size full.size
   (by unfold World.shape?; rw [hrow2]) s.data.toList hne (by rw [← Lib.size_eq]; omega) (by rw [← Lib.size_eq]; omega)
   (fun j x hx => Lib.cells_of_row hrow2 full.size j _ (by rw [List.take_of_length_le (by rw [Array.length_toList]; exact Nat.le_refl _), hlist]; simp [Lib.byteCells, hx]))
  rw [← Lib.size_eq] at hstr
  have hb : Below w.heap.size w ((w1.setRow w.heap.size full).freeze ⟨w.heap.size, 0, none⟩ s.size) := by
   refine Lib.below_freeze (B := w.heap.size) ?_ (p := ⟨w.heap.size, 0, none⟩) (Nat.le_refl _) _
   refine Below.trans (b := w1) (by rw [← hw1]; exact (Below.refl _ w).alloc (Nat.le_refl _) _) ⟨rfl, rfl, rfl, by simp, fun k hk => setRow_other _ _ _ _ (by omega)⟩
  have Hb := Lib.hid hb
  clear hb hlist hfs hrow hrow2 hne hbs
  subst hw1
  go_enter Try.func78, Try.ntmps78
  go_wp2
  go_ret
  exact ⟨rfl, Hb.out⟩
theorem clone_any (s : ByteArray) (w : World) (hlim : s.size ≤ 281474976710656) :
  Calls Try.prog 74 #[.string s] w fun e w' => e = .returned (.string s) ∧ Below w.heap.size w w' := by
 go_enter Try.func74, Try.ntmps74
 go_wp2_with (go_at_call 78; refine (inner_clone _ _ hlim).mono ?_; rintro e w' ⟨rfl, hb⟩)
 go_ret
 exact ⟨rfl, hb⟩
def TPost (w : World) (b : Nat) (t l : List UInt8) (e0 : Int) (e : Ending) (w' : World) : Prop :=
 e = .returned (.string ⟨t.toArray⟩) ∧ RdL w' b l e0 ∧ w.grownBy w' (some b)
theorem t_of {w : World} {b n : Nat} {l1 : List UInt8} {e1 : Int} (hm : l1.length ≤ 281474976710656) (hn : n < 9223372036854775808)
  (hN : Calls Try.prog 50 #[.pointer (some ⟨b, 0, none⟩)] w (NPost w b n l1 e1)) :
  Calls Try.prog 64 #[.pointer (some ⟨b, 0, none⟩)] w
   (if e1 = 0 then (if l1.length < n then TPost w b [] [] 5 else TPost w b (l1.take n) (l1.drop n) 0) else TPost w b [] l1 e1) := by
 have HN := Lib.hid hN
 clear hN
 by_cases he : e1 = 0
 ·rw [if_pos he]
  subst he
  by_cases hlt : l1.length < n
  ·rw [if_pos hlt]
   have hsz : (⟨l1.toArray⟩ : ByteArray).size < n := by rw [mk_size]; exact hlt
   clear hlt
   go_enter Try.func64, Try.ntmps64
   go_wp2_with (first
    | (go_at_call 50; refine (HN.out).mono ?_; rintro e w1 ⟨rfl, h1, h2⟩; have c0 : w1.cell? ⟨b, 0, none⟩ = some (.string ⟨l1.toArray⟩) := Row.at h1 0)
    | (go_at_call 60; refine (err_any h1).mono ?_; rintro e w' ⟨rfl, rfl⟩)
    | (go_at_call 63; refine (fail_any h1 _).mono ?_; rintro e w' ⟨rfl, h3, h4⟩))
   go_ret
   exact ⟨rfl, rd_list h3 rfl, gb_trans h2 h4⟩
  ·rw [if_neg hlt]
   have hsz : ¬ (⟨l1.toArray⟩ : ByteArray).size < n := by rw [mk_size]; exact hlt
   have hsz2 : n ≤ (⟨l1.toArray⟩ : ByteArray).size := by omega
   have hsz3 : (⟨l1.toArray⟩ : ByteArray).size ≤ 281474976710656 := by rw [mk_size]; exact hm
   clear hlt hm
   have hn2 : Calls Try.prog 50 #[.pointer (some ⟨b, 0, none⟩)] w (fun e w' => e = .returned (.int .i64 n) ∧ Rd w' b ⟨l1.toArray⟩ 0 ∧ w.grownBy w' (some b)) := HN.out
   have hd : (⟨l1.toArray⟩ : ByteArray).data.toList = l1 := rfl
   have Hd := Lib.hid hd
   have HN2 := Lib.hid hn2
   clear hd hn2 HN
   generalize (⟨l1.toArray⟩ : ByteArray) = r at *
   go_enter Try.func64, Try.ntmps64
   go_wp2_with (first
    | (go_at_call 50; refine (HN2.out).mono ?_; rintro e w1 ⟨rfl, h1, h2⟩; have c0 : w1.cell? ⟨b, 0, none⟩ = some (.string r) := Row.at h1 0)
    | (go_at_call 60; refine (err_any h1).mono ?_; rintro e w' ⟨rfl, rfl⟩)
    | (go_at_call 74; refine (clone_any _ _ (by simp; omega)).mono ?_; rintro e w2 ⟨rfl, hb⟩; have h3 : Rd w2 b r 0 := Row.below h1 hb (Row.inHeap h1); have c2 : w2.cell? ⟨b, 0, none⟩ = some (.string r) := Row.at h3 0; have f2 := Row.free h3 0; have h4 := Row.stored h3 0 (.string (r.extract n r.size))))
   go_ret
   refine ⟨?_, rd_list (r := r.extract n r.size) (by unfold Rd; simpa using h4) (by rw [cut_data, Hd.out]), gb_store (gb_trans h2 (gb_below hb _)) 0 _⟩
   have : r.extract 0 n = ⟨(l1.take n).toArray⟩ := bytes_ext (by rw [Lib.extract_data, Hd.out]; simp)
   show Ending.returned (.string (r.extract 0 n)) = _
   rw [this]
 ·rw [if_neg he]
  have hne : (e1 != 0) = true := by simp [he]
  clear he
  go_enter Try.func64, Try.ntmps64
  go_wp2_with (first
   | (go_at_call 50; refine (HN.out).mono ?_; rintro e w' ⟨rfl, h1, h2⟩)
   | (go_at_call 60; refine (err_any h1).mono ?_; rintro e w' ⟨rfl, rfl⟩))
  go_ret
  exact ⟨rfl, h1, h2⟩
theorem t_any {w : World} {b : Nat} {l : List UInt8} {e0 : Int} (h : RdL w b l e0) (hm : l.length ≤ 281474976710656) :
  Calls Try.prog 64 #[.pointer (some ⟨b, 0, none⟩)] w (TPost w b (stepT l e0).1 (stepT l e0).2.1 (stepT l e0).2.2) := by
 have hN := n_any h hm
 have hff := Leb.first_fits l
 by_cases he : e0 = 0
 ·by_cases hf : (Leb.first l).2.2 = 0
  ·have hs : stepN l e0 = ((Leb.first l).1, l.drop (Leb.first l).2.1, 0) := by simp [stepN, hf, he]
   rw [hs] at hN
   have ht := t_of (by rw [List.length_drop]; omega) hff.1 hN
   rw [if_pos rfl, List.length_drop] at ht
   by_cases hl : l.length - (Leb.first l).2.1 < (Leb.first l).1
   ·rw [if_pos hl] at ht
    have : stepT l e0 = ([], [], 5) := by simp [stepT, he, Leb.second, hf, hl]
    rw [this]; exact ht
   ·rw [if_neg hl] at ht
    have : stepT l e0 = ((l.drop (Leb.first l).2.1).take (Leb.first l).1, (l.drop (Leb.first l).2.1).drop (Leb.first l).1, 0) := by
     simp [stepT, he, Leb.second, hf, hl]
    rw [this]; exact ht
  ·have hs : stepN l e0 = (0, [], (Leb.first l).2.2) := by simp [stepN, hf, he]
   rw [hs] at hN
   have ht := t_of (by simp) (by omega) hN
   rw [if_neg hf] at ht
   have : stepT l e0 = ([], [], (Leb.first l).2.2) := by simp [stepT, he, Leb.second, hf]
   rw [this]; exact ht
 ·have hs : stepN l e0 = (0, l, e0) := by simp [stepN, he]
  rw [hs] at hN
  have ht := t_of hm (by omega) hN
  rw [if_neg he] at ht
  have : stepT l e0 = ([], l, e0) := by simp [stepT, he]
  rw [this]; exact ht
theorem Leb.second_txt (t r : List UInt8) (h : t.length < 9223372036854775808) : Leb.second (Leb.enc t.length ++ t ++ r) = (t, (Leb.enc t.length).length + t.length, 0) := by
 have h1 := Leb.first_enc t.length (t ++ r) h
 rw [← List.append_assoc] at h1
 unfold Leb.second
 rw [h1]
 simp only [if_true]
 rw [if_neg (by simp)]
 congr 1
 rw [List.append_assoc, List.drop_left, List.take_left]
theorem stepN_left (l : List UInt8) (e : Int) : (stepN l e).2.1.length ≤ l.length := by
 unfold stepN
 split
 ·split
  ·simp only [List.length_drop]; omega
  ·simp
 ·exact Nat.le_refl _
theorem stepN_fits (l : List UInt8) (e : Int) : (stepN l e).1 < 9223372036854775808 := by
 unfold stepN
 split
 ·split
  ·exact (Leb.first_fits l).1
  ·simp
 ·simp
theorem stepT_left (l : List UInt8) (e : Int) : (stepT l e).1.length + (stepT l e).2.1.length ≤ l.length := by
 unfold stepT
 split
 ·split
  ·rename_i h0 h
   unfold Leb.second at h ⊢
   split at h
   ·rename_i hf
    rw [if_pos hf]
    split at h
    ·cases h
    ·rename_i hl
     rw [if_neg hl]
     simp only [List.length_take, List.length_drop]
     omega
   ·rename_i hf
    exact absurd h hf
  ·simp
 ·simp
theorem stepT_less {l : List UInt8} {e : Int} (h : (stepT l e).1 ≠ []) : (stepT l e).1.length + (stepT l e).2.1.length + 1 ≤ l.length := by
 unfold stepT at h ⊢
 split at h
 ·rename_i h0
  rw [if_pos h0]
  split at h
  ·rename_i hs
   rw [if_pos hs]
   unfold Leb.second at h hs ⊢
   split at hs
   ·rename_i hf
    rw [if_pos hf] at h ⊢
    split at hs
    ·cases hs
    ·rename_i hl
     rw [if_neg hl] at h ⊢
     obtain ⟨-, h2, h3⟩ := Leb.first_only l (Leb.first l).1 (Leb.first l).2.1 (by rw [← hf])
     have h4 := (Leb.enc_len (Leb.first l).1).1
     simp only [ne_eq, List.length_take, List.length_drop] at h ⊢
     have h5 := (Leb.first_fits l).2.1
     omega
   ·rename_i hf
    exact absurd hs hf
  ·exact absurd rfl h
 ·exact absurd rfl h
namespace Pck
def num (n : Int) : List UInt8 := Leb.enc n.toNat
def txt (t : List UInt8) : List UInt8 := Leb.enc t.length ++ t
def lst {α : Type} (f : α → List UInt8) (l : List α) : List UInt8 := Leb.enc l.length ++ l.flatMap fun x => txt (f x)
def numR (n : Int) : List UInt8 := if 0 ≤ n then num n else [UInt8.ofNat (n % 256).toNat]
theorem numR_is {n : Int} (h : 0 ≤ n) : numR n = num n := if_pos h
theorem numR_len (n : Int) : (numR n).length ≤ 9 := by
 unfold numR
 split
 ·exact (Leb.enc_len _).2
 ·simp
theorem step_num {n : Int} (h0 : 0 ≤ n) (h : n ≤ 9223372036854775807) (r : List UInt8) : stepN (num n ++ r) 0 = (n.toNat, r, 0) := by
 have h1 := Leb.first_enc n.toNat r (by omega)
 unfold stepN num
 rw [if_pos rfl, h1]
 simp only [if_true]
 rw [List.drop_left]
theorem step_len {n : Nat} (h : n < 9223372036854775808) (r : List UInt8) : stepN (Leb.enc n ++ r) 0 = (n, r, 0) := by
 have h1 := Leb.first_enc n r h
 unfold stepN
 rw [if_pos rfl, h1]
 simp only [if_true]
 rw [List.drop_left]
theorem step_txt {t : List UInt8} (h : t.length < 9223372036854775808) (r : List UInt8) : stepT (txt t ++ r) 0 = (t, r, 0) := by
 have h1 := Leb.second_txt t r h
 unfold stepT txt
 rw [if_pos rfl, h1]
 simp only [if_true]
 rw [← List.length_append, List.drop_left]
abbrev Rdr (α : Type) := List UInt8 → Int → α × List UInt8 × Int
section
variable {α : Type}
def rn : Rdr Int := fun l e => (((stepN l e).1 : Int), (stepN l e).2)
def elems (rd : Rdr α) : Nat → Rdr (List α)
 | 0, l, e => ([], l, e)
 | n + 1, l, e =>
  if endOf (rd (stepT l e).1 0).2.1.length (rd (stepT l e).1 0).2.2 = 0 then ((rd (stepT l e).1 0).1 :: (elems rd n (stepT l e).2.1 (stepT l e).2.2).1, (elems rd n (stepT l e).2.1 (stepT l e).2.2).2)
  else ([(rd (stepT l e).1 0).1], (stepT l e).2)
def list (rd : Rdr α) : Rdr (List α) := fun l e => elems rd (stepN l e).1 (stepN l e).2.1 (stepN l e).2.2
def Backs (rd : Rdr α) (f : α → List UInt8) (x : α) : Prop := ∀ r, rd (f x ++ r) 0 = (x, r, 0)
theorem Backs.whole {rd : Rdr α} {f : α → List UInt8} {x : α} (h : Backs rd f x) : rd (f x) 0 = (x, [], 0) := by
 have := h []
 rwa [List.append_nil] at this
theorem elems_backs {rd : Rdr α} {f : α → List UInt8} : ∀ (l : List α), (∀ x ∈ l, Backs rd f x ∧ (f x).length < 9223372036854775808) → ∀ r, elems rd l.length (l.flatMap (fun x => txt (f x)) ++ r) 0 = (l, r, 0)
 | [], _, r => rfl
 | x :: l, h, r => by
  obtain ⟨h1, h2⟩ := h x (by simp)
  have ih := elems_backs l (fun y hy => h y (List.mem_cons_of_mem _ hy)) r
  rw [List.length_cons, List.flatMap_cons, List.append_assoc, elems, step_txt h2, h1.whole]
  simp only [List.length_nil]
  rw [if_pos (show endOf 0 0 = 0 from rfl), ih]
theorem list_backs {rd : Rdr α} {f : α → List UInt8} {l : List α} (h : ∀ x ∈ l, Backs rd f x ∧ (f x).length < 9223372036854775808) (hl : l.length < 9223372036854775808) : Backs (list rd) (lst f) l := by
 intro r
 unfold list lst
 rw [List.append_assoc, step_len hl]
 exact elems_backs l h r
def rt : Rdr (List UInt8) := stepT
def ret (x : α) : Rdr α := fun l e => (x, l, e)
def bnd {β : Type} (a : Rdr α) (k : α → Rdr β) : Rdr β := fun l e => k (a l e).1 (a l e).2.1 (a l e).2.2
def Takes (rd : Rdr α) (p : List UInt8) (x : α) : Prop := ∀ r, rd (p ++ r) 0 = (x, r, 0)
theorem Takes.ret (x : α) : Takes (ret x) [] x := fun _ => rfl
theorem Takes.bnd {β : Type} {a : Rdr α} {k : α → Rdr β} {p q : List UInt8} {x : α} {y : β} (h : Takes a p x) (h2 : Takes (k x) q y) : Takes (bnd a k) (p ++ q) y := by
 intro r
 unfold Pck.bnd
 rw [List.append_assoc, h (q ++ r)]
 exact h2 r
theorem Takes.num {n : Int} (h0 : 0 ≤ n) (h : n ≤ 9223372036854775807) : Takes rn (num n) n := by
 intro r
 unfold rn
 rw [step_num h0 h r]
 simp only
 rw [Int.toNat_of_nonneg h0]
theorem Takes.txt {t : List UInt8} (h : t.length < 9223372036854775808) : Takes rt (txt t) t := fun r => step_txt h r
theorem Takes.eq {rd : Rdr α} {p q : List UInt8} {x : α} (h : Takes rd p x) (e : p = q) : Takes rd q x := e ▸ h
theorem rn_nonneg (l : List UInt8) (e : Int) : 0 ≤ (rn l e).1 ∧ (rn l e).1 ≤ 9223372036854775807 := by
 have := stepN_fits l e
 unfold rn
 simp only
 omega
theorem rn_left (l : List UInt8) (e : Int) : (rn l e).2.1.length ≤ l.length := stepN_left l e
def Never (rd : Rdr α) : Prop := (rd [] 0).2.2 ≠ 0
theorem endOf_iff {n : Nat} {e : Int} : endOf n e = 0 ↔ n = 0 ∧ e = 0 := by
 unfold endOf
 split
 ·rename_i h
  split
  ·rename_i h1; exact ⟨fun _ => ⟨h1, h⟩, fun _ => rfl⟩
  ·rename_i h1; exact ⟨fun h2 => absurd h2 (by decide), fun h2 => absurd h2.1 h1⟩
 ·rename_i h; exact ⟨fun h2 => absurd h2 h, fun h2 => h2.2⟩
theorem Never.some {rd : Rdr α} (h : Never rd) {t : List UInt8} (ht : endOf (rd t 0).2.1.length (rd t 0).2.2 = 0) : t ≠ [] := by
 rintro rfl
 exact h (endOf_iff.1 ht).2
theorem elems_len {rd : Rdr α} (hn : Never rd) : ∀ (n : Nat) (l : List UInt8) (e : Int), (elems rd n l e).1.length ≤ l.length + 1
 | 0, l, e => by simp [elems]
 | n + 1, l, e => by
  rw [elems]
  split
  ·rename_i h
   have h1 := stepT_less (hn.some h)
   have ih := elems_len hn n (stepT l e).2.1 (stepT l e).2.2
   simp only [List.length_cons]
   omega
  ·simp
theorem stepN_less (l : List UInt8) (e : Int) : (stepN l e).1 = 0 ∨ (stepN l e).2.1.length + 1 ≤ l.length := by
 unfold stepN
 split
 ·split
  ·rename_i h0 h
   obtain ⟨-, h2, h3⟩ := Leb.first_only l (Leb.first l).1 (Leb.first l).2.1 (by rw [← h])
   have h4 := (Leb.enc_len (Leb.first l).1).1
   have h5 := (Leb.first_fits l).2.1
   right
   simp only [List.length_drop]
   omega
  ·exact Or.inl rfl
 ·exact Or.inl rfl
theorem list_len {rd : Rdr α} (hn : Never rd) (l : List UInt8) (e : Int) : (list rd l e).1.length ≤ l.length := by
 unfold list
 rcases stepN_less l e with h | h
 ·rw [h]
  simp [elems]
 ·have h1 := elems_len hn (stepN l e).1 (stepN l e).2.1 (stepN l e).2.2
  omega
theorem elems_all {rd : Rdr α} {Q : α → Prop} {m : Nat} (hq : ∀ t : List UInt8, t.length ≤ m → Q (rd t 0).1) : ∀ (n : Nat) (l : List UInt8) (e : Int), l.length ≤ m → ∀ x ∈ (elems rd n l e).1, Q x
 | 0, l, e, _, x, hx => by simp [elems] at hx
 | n + 1, l, e, hl, x, hx => by
  have h1 := stepT_left l e
  rw [elems] at hx
  split at hx
  ·rcases List.mem_cons.1 hx with rfl | hx
   ·exact hq _ (by omega)
   ·exact elems_all hq n _ _ (by omega) x hx
  ·simp only [List.mem_singleton] at hx
   subst hx
   exact hq _ (by omega)
theorem list_all {rd : Rdr α} {Q : α → Prop} {m : Nat} (hq : ∀ t : List UInt8, t.length ≤ m → Q (rd t 0).1) (l : List UInt8) (e : Int) (hl : l.length ≤ m) : ∀ x ∈ (list rd l e).1, Q x :=
 elems_all hq _ _ _ (Nat.le_trans (stepN_left l e) hl)
theorem num_len (n : Int) : (num n).length ≤ 9 := (Leb.enc_len _).2
theorem txt_len (t : List UInt8) : (txt t).length ≤ t.length + 9 := by
 have := (Leb.enc_len t.length).2
 unfold txt
 rw [List.length_append]
 omega
theorem flat_le {f : α → List UInt8} {m : Nat} : ∀ (l : List α), (∀ x ∈ l, (f x).length ≤ m) → (l.flatMap fun x => txt (f x)).length ≤ l.length * (m + 9)
 | [], _ => by simp
 | x :: l, h => by
  have h1 := txt_len (f x)
  have h2 := h x (by simp)
  have ih := flat_le l (fun y hy => h y (List.mem_cons_of_mem _ hy))
  rw [List.flatMap_cons, List.length_append, List.length_cons, Nat.add_one_mul]
  omega
theorem lst_le {f : α → List UInt8} {m : Nat} (l : List α) (h : ∀ x ∈ l, (f x).length ≤ m) : (lst f l).length ≤ 9 + l.length * (m + 9) := by
 have h1 := (Leb.enc_len l.length).2
 have h2 := flat_le l h
 unfold lst
 rw [List.length_append]
 omega
def putOf (ok : Prop) [Decidable ok] (bs : List UInt8) : List UInt8 × Int := if ok then (if bs.length ≤ 65536 then (bs, 0) else ([], 4)) else ([], 2)
def getOf (rd : Rdr α) (put : α → List UInt8 × Int) (zero : α) (s : List UInt8) : α × Int :=
 if 65536 < s.length then (zero, 6) else if (put (rd s 0).1).2 = 0 ∧ (put (rd s 0).1).1 = s then ((rd s 0).1, 0) else (zero, 6)
theorem put_good {ok : Prop} [Decidable ok] {bs : List UInt8} (h : ok) (hl : bs.length ≤ 65536) : putOf ok bs = (bs, 0) := by unfold putOf; rw [if_pos h, if_pos hl]
theorem put_bad {ok : Prop} [Decidable ok] {bs : List UInt8} (h : ¬ ok) : putOf ok bs = ([], 2) := if_neg h
theorem put_zero {ok : Prop} [Decidable ok] {bs : List UInt8} (h : (putOf ok bs).2 = 0) : ok ∧ (putOf ok bs).1 = bs := by
 unfold putOf at h ⊢
 split at h
 ·rename_i ho
  rw [if_pos ho]
  split at h
  ·rename_i hl
   rw [if_pos hl]
   exact ⟨ho, rfl⟩
  ·exact absurd h (by decide)
 ·exact absurd h (by decide)
theorem get_back {rd : Rdr α} {ok : α → Prop} [∀ x, Decidable (ok x)] {f : α → List UInt8} {zero x : α} (h : ok x) (hb : Backs rd f x) (hl : (f x).length ≤ 65536) : getOf rd (fun x => putOf (ok x) (f x)) zero (f x) = (x, 0) := by
 unfold getOf
 rw [if_neg (by omega), hb.whole]
 simp only
 rw [put_good h hl]
 simp
theorem get_ways2 {rd : Rdr α} {ok : α → Prop} [∀ x, Decidable (ok x)] {f : α → List UInt8} {zero : α} (s : List UInt8) :
  (getOf rd (fun x => putOf (ok x) (f x)) zero s = ((rd s 0).1, 0) ∧ ok (rd s 0).1 ∧ f (rd s 0).1 = s ∧ s.length ≤ 65536) ∨ getOf rd (fun x => putOf (ok x) (f x)) zero s = (zero, 6) := by
 unfold getOf
 split
 ·exact Or.inr rfl
 ·rename_i hl
  split
  ·rename_i h
   obtain ⟨h1, h2⟩ := h
   obtain ⟨h3, h4⟩ := put_zero h1
   exact Or.inl ⟨rfl, h3, h4.symm.trans h2, by omega⟩
  ·exact Or.inr rfl
end
end Pck
end Go.Proofs.Ytpafpegcodempaa
