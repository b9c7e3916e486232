import Derived.Test.YtpafpegcodempaaCom2
import Derived.Test.YtpafpegcodempaaCom1
import Derived.Lib.AppendStr
import Derived.RegionTactic
import Derived.Deep.RegionLaw
import Derived.Deep.AppendLies
import Derived.KernelRfl
import Derived.Lib.BufferRead
import Derived.Laws.AppendOwn
import Derived.Lib.Hide
import Derived.OwnWalk
import Derived.Tactics
import Derived.Deep.QuietTactic
import Derived.BigQuiet
import Derived.Deep.RegionWith
import Derived.WalkSpells
set_option maxRecDepth 100000
set_option linter.all false
set_option maxHeartbeats 12800000
namespace Go.Proofs.Ytpafpegcodempaa
open Go.RowKit
theorem step_append_text {P : Program} {ops : Array Oper} {o : Oper} {a : Act} {w : World} {K : Act → World → Prop} {Q : Exit → Act → World → Prop} {E : Prop} (hgd : o.guard = none) (sl x : Operand) (t u : TypeId)
  (hop : o.op = .call { callee := .builtin .append, args := #[sl, x], argTypes := #[t, u] })
  (base : Nat) (e : TypeId) (i : TypeInfo) (ht : P.underlying t = some (.slice e)) (hu : P.underlying u = some .string) (hi : P.info? e = some i) (hz : i.zero = some (.int .u8 0)) (hsize : i.size = 1) (hby : i.bytes = 1)
  (v : Value) (n : Nat) (xs : List Value) (hs : a.eval sl = v) (hown : w.ownsRow base e 1 v n xs) (s : ByteArray) (hx : a.eval x = .string s)
  (h63 : n + s.size ≤ maxLen) (hbytes : n + s.size ≤ 140737488355328) (hbase : base ≤ w.heap.size)
  (h : ∀ v' w', w'.ownsRow base e 1 v' (n + s.size) (xs ++ Lib.strCells s) → w.grownBy w' v.ownBlock → K (a.put o.dst v') w') :
  if Region.wanted o (yielded ops a.tmps) = true then Oper.wp P o a w K Q else E := by
 rw [if_pos (by simp [Region.wanted, hgd])]
 obtain ⟨v', w', hrun, h1, h2, _⟩ := Lib.run_append_own_string (P := P) w base t u o.type e i ht hu hi hz hsize hby v n xs hown s h63 hbytes hbase
 unfold Oper.wp execOp
 simp only [hop, resolve, invoke, builtin, Sem.run_bind, Sem.run_pure, Result.andThen_ok, List.map_toArray, List.map_cons, List.map_nil, hs, hx, hrun]
 exact h v' w' h1 h2
def numOf (n : Int) (s : ByteArray) (t : Bool) : Int := if t then s.size else n
def strOf (s : ByteArray) (t : Bool) : ByteArray := if t then s else ⟨#[]⟩
theorem parts_any (n : Int) (s : ByteArray) (t : Bool) (w : World) :
  Calls Try.prog 54 #[.agg #[.int .i64 n, .string s, .bool t]] w fun e w' => e = .returned (.tuple #[.int .i64 (numOf n s t), .string (strOf s t)]) ∧ Below w.heap.size w w' := by
 cases t
 ·exact parts_n n s w
 ·exact parts_t n s w
theorem own_shape {w : World} {base t size n : Nat} {v : Value} {xs : List Value} (h : w.ownsRow base t size v n xs) : ∃ A cap, v = .slice A n cap := by
 rcases h.2 with ⟨hv, h0⟩ | ⟨g, cap, cur, hv, _⟩
 ·exact ⟨none, 0, by rw [hv, h0]⟩
 ·exact ⟨_, cap, hv⟩
def BLaid (w : World) (base c d : Nat) (l : List UInt8) : Prop :=
 Row w c 87 #[.pointer (some ⟨d, 0, none⟩)] ∧ ∃ v, Row w d 75 #[v] ∧ w.ownsRow base 5 1 v l.length (Lib.byteCells l)
theorem BLaid.below {w w' : World} {base c d : Nat} {l : List UInt8} (h : BLaid w base c d l) (hb : Below w.heap.size w w') : BLaid w' base c d l := by
 obtain ⟨h1, v, h2, h3⟩ := h
 refine ⟨h1.below hb h1.inHeap, v, h2.below hb h2.inHeap, h3.kept (gb_below hb none) ?_⟩
 cases hv : v.ownBlock <;> simp
def FieldPost (w : World) (base c d : Nat) (l : List UInt8) (n : Int) (s : ByteArray) (e : Ending) (w' : World) : Prop :=
 Below base w w' ∧ (if 65536 - (l.length : Int) < s.size then e = .returned (.bool false) else
  e = .returned (.bool (decide ((l.length : Int) + ((Leb.enc n.toNat).length : Int) + (s.size : Int) ≤ 65536))) ∧ BLaid w' base c d (l ++ Leb.enc n.toNat ++ s.data.toList))
theorem field_fin {w w3 : World} {base c d : Nat} {l e : List UInt8} {x : ByteArray} {u0 v3 : Value} (hb : Below base w w3) (hd : base ≤ d)
  (r1 : Row w3 c 87 #[.pointer (some ⟨d, 0, none⟩)]) (r2 : Row w3 d 75 #[u0]) (own : w3.ownsRow base 5 1 v3 (l.length + e.length + x.size) (Lib.byteCells l ++ Lib.byteCells e ++ Lib.strCells x)) :
  Below base w (w3.setCell ⟨d, 0, none⟩ v3) ∧ BLaid (w3.setCell ⟨d, 0, none⟩ v3) base c d (l ++ e ++ x.data.toList) ∧
   (w3.setCell ⟨d, 0, none⟩ v3).cell? ⟨c, 0, none⟩ = some (.pointer (some ⟨d, 0, none⟩)) ∧ (w3.setCell ⟨d, 0, none⟩ v3).cell? ⟨d, 0, none⟩ = some v3 := by
 have hcd : d ≠ c := by
  rintro rfl
  have h1 : w3.heap[d]? = _ := r1
  have h2 : w3.heap[d]? = _ := r2
  rw [h1] at h2
  injection h2 with h2
  injection h2 with _ h2
  exact absurd h2 (by decide)
 have k1 : Row (w3.setCell ⟨d, 0, none⟩ v3) c 87 #[.pointer (some ⟨d, 0, none⟩)] := r1.storedElsewhere (p := ⟨d, 0, none⟩) hcd v3
 have k2 : Row (w3.setCell ⟨d, 0, none⟩ v3) d 75 #[v3] := by simpa using r2.stored 0 v3
 refine ⟨hb.setCell (p := ⟨d, 0, none⟩) hd v3, ⟨k1, v3, k2, ?_⟩, k1.at 0, k2.at 0⟩
 have hlen : (l ++ e ++ x.data.toList).length = l.length + e.length + x.size := by rw [List.length_append, List.length_append, ← Lib.size_eq]
 have hcs : Lib.byteCells (l ++ e ++ x.data.toList) = Lib.byteCells l ++ Lib.byteCells e ++ Lib.strCells x := by rw [Lib.byteCells_append, Lib.byteCells_append, Lib.strCells_eq]
 rw [hlen, hcs]
 exact ownsRow_setCell_other own (a := ⟨d, 0, none⟩) (own_other own r2 (by decide)) v3
theorem layer_field {w : World} {base c d : Nat} {l : List UInt8} (n : Int) (s : ByteArray) (t : Bool) (h : BLaid w base c d l) (hd : base ≤ d) (hB : base ≤ w.heap.size) (hl : l.length ≤ 65536)
    (hn : 0 ≤ numOf n s t) (hn2 : numOf n s t < 9223372036854775808) (hs : (strOf s t).size ≤ 9223372036854775807) :
    Calls Try.prog 67 #[.agg #[.int .i64 n, .string s, .bool t], .pointer (some ⟨c, 0, none⟩)] w (FieldPost w base c d l (numOf n s t) (strOf s t)) := by
  obtain ⟨i0, hi, hz0, hz1, hz2⟩ := info_parts byteInfo
  have hparts := fun W => parts_any n s t W
  have Hparts := Lib.hid hparts
  clear hparts
  generalize numOf n s t = q at *
  generalize strOf s t = x at *
  obtain ⟨m, rfl⟩ := Int.eq_ofNat_of_zero_le hn
  have hlaid : ∀ (o : Obj) (W : World), Below (w.alloc o).heap.size (w.alloc o) W → BLaid W base c d l ∧ Below base w W := by
    intro o W hW
    have h1 : Below w.heap.size w (w.alloc o) := (Below.refl _ _).alloc (Nat.le_refl _) o
    have h2 : Below w.heap.size w W := h1.trans (hW.mono (by simp))
    exact ⟨h.below h2, h2.mono hB⟩
  have HL := Lib.hid hlaid
  have Hl := Lib.hid hl
  have Hn2 := Lib.hid hn2
  have Hs := Lib.hid hs
  clear hlaid h hn2 hs hn
  by_cases hbig : 65536 - (l.length : Int) < x.size
  · have Hbig := Lib.hid hbig
    have hb : (65536 : Int) - (l.length : Int) < (x.size : Int) := hbig
    have hl0 : (l.length : Int) ≤ 65536 := by omega
    have hs0 : (x.size : Int) ≤ 9223372036854775807 := by have := Hs.out; omega
    clear hbig hl
    go_enter Try.func67, Try.ntmps67
    go_wp2_with (go_at_call 54; refine (Hparts.out _).mono ?_; rintro e w1 ⟨rfl, hb1⟩; obtain ⟨⟨r1, v, r2, own⟩, hbel⟩ := HL.out _ w1 hb1; obtain ⟨A, cap, rfl⟩ := own_shape own; have c1 : w1.cell? ⟨c, 0, none⟩ = some (.pointer (some ⟨d, 0, none⟩)) := r1.at 0; have c2 : w1.cell? ⟨d, 0, none⟩ = some (.slice A l.length cap) := r2.at 0)
    go_ret
    refine ⟨hbel, ?_⟩
    rw [if_pos Hbig.out]
    rfl
  · have Hbig := Lib.hid hbig
    have hb : decide ((65536 : Int) - (l.length : Int) < (x.size : Int)) = false := by simpa using hbig
    have hl0 : (l.length : Int) ≤ 65536 := by omega
    clear hbig hl
    go_enter Try.func67, Try.ntmps67
    go_wp2_with (go_at_call 54; refine (Hparts.out _).mono ?_; rintro e w1 ⟨rfl, hb1⟩; obtain ⟨⟨r1, v, r2, own⟩, hbel⟩ := HL.out _ w1 hb1; obtain ⟨A, cap, rfl⟩ := own_shape own; have c1 : w1.cell? ⟨c, 0, none⟩ = some (.pointer (some ⟨d, 0, none⟩)) := r1.at 0; have c2 : w1.cell? ⟨d, 0, none⟩ = some (.slice A l.length cap) := r2.at 0)
    have hen := (Leb.enc_len m).2
    have hx9 : l.length + (Leb.enc m).length + x.size ≤ 200000 := by have := Hbig.out; omega
    have e63 : l.length + (Leb.enc m).length + x.size ≤ maxLen := by unfold maxLen; omega
    have e47 : l.length + (Leb.enc m).length + x.size ≤ 140737488355328 := by omega
    have hm63 : m < 9223372036854775808 := by have := Hn2.out; omega
    have hz1' : base ≤ w1.heap.size := by have := hbel.size; omega
    have E63 := Lib.hid e63
    have E47 := Lib.hid e47
    have M63 := Lib.hid hm63
    clear hx9 e63 e47 hm63 hb hl0 hen
    go_region_law
      (first
        | (refine step_append_text (by rfl) _ _ _ _ (by rfl) base 5 i0 Try.underlying75 Try.underlying9 hi hz0 hz1 hz2 v2 _ _ (by rfl) own2 x (by rfl) E63.out E47.out (Nat.le_trans hz1' hb2.size) ?_
           intro v3 w3 own3 hg3
           obtain ⟨A3, cap3, rfl⟩ := own_shape own3
           have hsp3 := Spares.grown own2 hg3
           have hb3 : Below base w2 w3 := (Below.refl _ _).grown hg3 (Nat.le_trans hz1' hb2.size) (fun k hk => own_from own2 k hk)
           have c4 : w3.cell? ⟨c, 0, none⟩ = some (.pointer (some ⟨d, 0, none⟩)) := (hsp3 c _ _ (by decide) (hsp2 c _ _ (by decide) r1)).at 0
           have d4 : w3.cell? ⟨d, 0, none⟩ = some (.slice A l.length cap) := (hsp3 d _ _ (by decide) (hsp2 d _ _ (by decide) r2)).at 0
           have e4 := (hsp3 d _ _ (by decide) (hsp2 d _ _ (by decide) r2)).free 0)
        | (go_simp
           go_at_call 68
           refine (append_number (w := w1.drew) (base := base) (n := l.length) (xs := Lib.byteCells l) own Hl.out M63.out hz1').mono ?_
           rintro e w2 ⟨v2, rfl, own2, hb2, hsp2⟩
           have c3 : w2.cell? ⟨c, 0, none⟩ = some (.pointer (some ⟨d, 0, none⟩)) := (hsp2 c _ _ (by decide) r1).at 0
           have d3 : w2.cell? ⟨d, 0, none⟩ = some (.slice A l.length cap) := (hsp2 d _ _ (by decide) r2).at 0))
    all_goals
      obtain ⟨hB9, hL9, c9, d9⟩ := field_fin ((hbel.drew.trans hb2).trans hb3) hd (hsp3 c _ _ (by decide) (hsp2 c _ _ (by decide) r1)) (hsp3 d _ _ (by decide) (hsp2 d _ _ (by decide) r2)) own3
      have HB9 := Lib.hid hB9
      clear hb3 hsp3 c4 d4 e4 own3 hg3 c3 d3 own2 hb2 hsp2 hbel own hB9
      go_wp2
      go_ret
      refine ⟨HB9.out, ?_⟩
      rw [if_neg (by have := Hbig.out; omega)]
      exact ⟨rfl, hL9⟩
open Go.RowKit
structure Fl where
 num : Int
 txt : ByteArray
 isT : Bool
def Fl.head (f : Fl) : Int := numOf f.num f.txt f.isT
def Fl.body (f : Fl) : ByteArray := strOf f.txt f.isT
def Fl.bytes (f : Fl) : List UInt8 := Leb.enc f.head.toNat ++ f.body.data.toList
def allBytes (fs : List Fl) : List UInt8 := fs.flatMap Fl.bytes
def FieldsAt (w : World) (b off : Nat) (fs : List Fl) : Prop := ∀ i f, fs[i]? = some f →
 w.cell? ⟨b, off + i * 3, none⟩ = some (.int .i64 f.num) ∧ w.cell? ⟨b, off + i * 3 + 1, none⟩ = some (.string f.txt) ∧ w.cell? ⟨b, off + i * 3 + 2, none⟩ = some (.bool f.isT)
theorem FieldsAt.below {w w' : World} {b off B : Nat} {fs : List Fl} (h : FieldsAt w b off fs) (hb : Below B w w') (hB : b < B) : FieldsAt w' b off fs := fun i f hf => by
 obtain ⟨h1, h2, h3⟩ := h i f hf
 exact ⟨(hb.cell (p := ⟨b, _, none⟩) hB).trans h1, (hb.cell (p := ⟨b, _, none⟩) hB).trans h2, (hb.cell (p := ⟨b, _, none⟩) hB).trans h3⟩
def layOf (fs : List Fl) : List UInt8 × Int :=
 if fs.any (fun f => decide (f.head < 0)) then ([], 3) else if 65536 < (allBytes fs).length then ([], 4) else (allBytes fs, 0)
def Fits (fs : List Fl) : Prop := ∀ (i : Nat) (f : Fl), fs[i]? = some f → f.head < 9223372036854775808 ∧ f.body.size ≤ 9223372036854775807
theorem parts_fl (f : Fl) (w : World) :
  Calls Try.prog 54 #[.agg #[.int .i64 f.num, .string f.txt, .bool f.isT]] w fun e w' => e = .returned (.tuple #[.int .i64 f.head, .string f.body]) ∧ Below w.heap.size w w' :=
 parts_any f.num f.txt f.isT w
theorem layer_any (d : Nat) (w : World) :
  Calls Try.prog 55 #[.pointer (some ⟨d, 0, none⟩)] w fun e w' =>
   e = .returned (.func (.func 67) #[] #[.pointer (some ⟨w.heap.size, 0, none⟩)]) ∧ w.alloc (.cells #[.pointer (some ⟨d, 0, none⟩)] 87) = w' := by
 go_enter Try.func55, Try.ntmps55
 go_wp2
 go_ret
 exact ⟨rfl, rfl⟩
theorem run_text {w : World} {base : Nat} {v : Value} {l : List UInt8} (h : w.ownsRow base 5 1 v l.length (Lib.byteCells l)) :
  (convert 75 9 v).run Try.prog w = .ok (.string ⟨l.toArray⟩) w := by
 rcases h.2 with ⟨hv, h0⟩ | ⟨g, cap, cur, hv, _⟩
 ·have : l = [] := List.eq_nil_of_length_eq_zero h0
  subst this
  rw [hv]
  exact Lib.run_convert_nil_bytes (P := Try.prog) w 75 9 5 0 Try.underlying75 Try.underlying5 Try.underlying9
 ·have hcells := h.cells (g := g) (by rw [hv]; rfl)
  rw [hv]
  refine run_convert_bytes_back (P := Try.prog) w 75 9 5 ⟨g, 0, none⟩ cap l Try.underlying75 Try.underlying5 Try.underlying9 (fun j hj => hcells j _ ?_)
  simp [Lib.byteCells, hj]
theorem allBytes_snoc (fs : List Fl) (k : Nat) (f : Fl) (hf : fs[k]? = some f) : allBytes (fs.take (k + 1)) = allBytes (fs.take k) ++ Leb.enc f.head.toNat ++ f.body.data.toList := by
 obtain ⟨hl, he⟩ := List.getElem?_eq_some_iff.1 hf
 rw [List.take_succ_eq_append_getElem hl, he]
 simp [allBytes, Fl.bytes, List.append_assoc]
theorem allBytes_le (fs : List Fl) (k : Nat) : (allBytes (fs.take k)).length ≤ (allBytes fs).length := by
 have : allBytes fs = allBytes (fs.take k) ++ allBytes (fs.drop k) := by
  unfold allBytes
  rw [← List.flatMap_append, List.take_append_drop]
 rw [this, List.length_append]
 omega
def LayPost (w : World) (fs : List Fl) (e : Ending) (w' : World) : Prop :=
 e = .returned (.tuple #[.string ⟨(layOf fs).1.toArray⟩, .int .i64 (layOf fs).2]) ∧ Below w.heap.size w w'
def Fine (fs : List Fl) (k : Nat) : Prop := ∀ j f, fs[j]? = some f → j < k → 0 ≤ f.head
theorem fine_all {fs : List Fl} (h : Fine fs fs.length) : fs.any (fun f => decide (f.head < 0)) = false := by
 rw [List.any_eq_false]
 intro f hf
 obtain ⟨i, hi, he⟩ := List.mem_iff_getElem.1 hf
 have := h i f (by rw [List.getElem?_eq_getElem hi, he]) hi
 simp; omega
def LayRel (w : World) (base c d : Nat) (fs : List Fl) (k : Nat) (wr : World) : Prop :=
 Below base w wr ∧ BLaid wr base c d (allBytes (fs.take k)) ∧ (allBytes (fs.take k)).length ≤ 65536
theorem LayRel.new {w wr : World} {base c d k : Nat} {fs : List Fl} (h : LayRel w base c d fs k wr) (hB : base ≤ w.heap.size) (o : Obj) : LayRel w base c d fs k (wr.alloc o) :=
 ⟨h.1.alloc (Nat.le_trans hB h.1.size) o, h.2.1.below ((Below.refl _ _).alloc (Nat.le_refl _) o), h.2.2⟩
theorem layer_yes {w W : World} {base c d k : Nat} {fs : List Fl} {f : Fl} (h : LayRel w base c d fs k W) (hd : base ≤ d) (hB : base ≤ w.heap.size) (hf : fs[k]? = some f) (hfit : Fits fs) (hpos : 0 ≤ f.head)
  (hle : (allBytes (fs.take (k + 1))).length ≤ 65536) :
  Calls Try.prog 67 #[.agg #[.int .i64 f.num, .string f.txt, .bool f.isT], .pointer (some ⟨c, 0, none⟩)] W fun e w' => e = .returned (.bool true) ∧ LayRel w base c d fs (k + 1) w' := by
 obtain ⟨h1, h2, h3⟩ := h
 have hs := allBytes_snoc fs k f hf
 have hlen : (allBytes (fs.take (k + 1))).length = (allBytes (fs.take k)).length + (Leb.enc f.head.toNat).length + f.body.size := by
  rw [hs, List.length_append, List.length_append, ← Lib.size_eq]
 refine (layer_field f.num f.txt f.isT h2 hd (Nat.le_trans hB h1.size) h3 hpos (hfit k f hf).1 (hfit k f hf).2).mono ?_
 rintro e w' ⟨k1, k2⟩
 have k2' : if 65536 - ((allBytes (fs.take k)).length : Int) < f.body.size then e = .returned (.bool false) else
  e = .returned (.bool (decide (((allBytes (fs.take k)).length : Int) + ((Leb.enc f.head.toNat).length : Int) + (f.body.size : Int) ≤ 65536))) ∧ BLaid w' base c d (allBytes (fs.take k) ++ Leb.enc f.head.toNat ++ f.body.data.toList) := k2
 rw [if_neg (by omega)] at k2'
 obtain ⟨k3, k4⟩ := k2'
 refine ⟨?_, h1.trans k1, by rw [hs]; exact k4, hle⟩
 rw [k3, decide_eq_true (by omega)]
theorem layer_no {w W : World} {base c d k : Nat} {fs : List Fl} {f : Fl} (h : LayRel w base c d fs k W) (hd : base ≤ d) (hB : base ≤ w.heap.size) (hf : fs[k]? = some f) (hfit : Fits fs) (hpos : 0 ≤ f.head)
  (hle : 65536 < (allBytes (fs.take (k + 1))).length) :
  Calls Try.prog 67 #[.agg #[.int .i64 f.num, .string f.txt, .bool f.isT], .pointer (some ⟨c, 0, none⟩)] W fun e w' => e = .returned (.bool false) ∧ Below base w w' := by
 obtain ⟨h1, h2, h3⟩ := h
 have hs := allBytes_snoc fs k f hf
 have hlen : (allBytes (fs.take (k + 1))).length = (allBytes (fs.take k)).length + (Leb.enc f.head.toNat).length + f.body.size := by
  rw [hs, List.length_append, List.length_append, ← Lib.size_eq]
 refine (layer_field f.num f.txt f.isT h2 hd (Nat.le_trans hB h1.size) h3 hpos (hfit k f hf).1 (hfit k f hf).2).mono ?_
 rintro e w' ⟨k1, k2⟩
 have k2' : if 65536 - ((allBytes (fs.take k)).length : Int) < f.body.size then e = .returned (.bool false) else
  e = .returned (.bool (decide (((allBytes (fs.take k)).length : Int) + ((Leb.enc f.head.toNat).length : Int) + (f.body.size : Int) ≤ 65536))) ∧ BLaid w' base c d (allBytes (fs.take k) ++ Leb.enc f.head.toNat ++ f.body.data.toList) := k2
 refine ⟨?_, h1.trans k1⟩
 split at k2'
 ·exact k2'
 ·rw [k2'.1, decide_eq_false (by omega)]
theorem lay_any {w : World} {b off cap : Nat} {fs : List Fl} (h : FieldsAt w b off fs) (hb : b < w.heap.size) (hlen : fs.length ≤ 70000) (hfit : Fits fs) :
  Calls Try.prog 36 #[.slice (some ⟨b, off, none⟩) fs.length cap] w (LayPost w fs) := by
 have Hf := Lib.hid h
 have Hfit := Lib.hid hfit
 have hlen' : (fs.length : Int) ≤ 70000 := by omega
 clear h hlen hfit
 go_enter Try.func36, Try.ntmps36
 go_wp2
 go_loopw [14] (fun i wr => ∃ k : Nat, k ≤ fs.length ∧ i = .int .i64 k ∧ Below w.heap.size w wr ∧ Fine fs k) (fun i _ => fs.length - (intOf i).toNat)
 case atStart => exact ⟨0, Nat.zero_le _, rfl, Below.refl _ _, fun j f _ hj => absurd hj (by omega)⟩
 case round =>
  obtain ⟨k, hk, rfl, hbel, hfine⟩ := hrel
  by_cases hlt : k < fs.length
  ·obtain ⟨f, hf⟩ : ∃ f, fs[k]? = some f := ⟨fs[k], List.getElem?_eq_getElem hlt⟩
   obtain ⟨c0, c1, c2⟩ := (Hf.out.below hbel hb) k f hf
   have HF := Lib.hid hf
   clear hf
   have hbn : Below w.heap.size w (wr.alloc (.cells #[.int .i64 f.num, .string f.txt, .bool f.isT] 72)) := hbel.alloc hbel.size _
   have Hbn := Lib.hid hbn
   clear hbn
   by_cases hneg : f.head < 0
   ·have hfin : Hid (layOf fs = ([], 3)) := by
     unfold layOf
     rw [if_pos]
     ·rfl
     ·exact List.any_eq_true.2 ⟨f, List.mem_of_getElem? HF.out, by simpa using hneg⟩
    go_wp2_with (go_at_call 54; refine (parts_fl f _).mono ?_; rintro e w1 ⟨rfl, hb1⟩)
    go_ret2
    exact ⟨by rw [hfin.out]; rfl, Hbn.out.trans (hb1.mono Hbn.out.size)⟩
   ·have hpos : 0 ≤ f.head := by omega
    have hfine' : Fine fs (k + 1) := by
     intro j g hg hj
     by_cases hjk : j = k
     ·subst hjk
      rw [HF.out] at hg
      injection hg with hg
      rw [← hg]; exact hpos
     ·exact hfine j g hg (by omega)
    clear hneg hfine
    go_wp2_with (go_at_call 54; refine (parts_fl f _).mono ?_; rintro e w1 ⟨rfl, hb1⟩)
    go_roundw
    case rel => exact ⟨k + 1, by omega, by go_num, Hbn.out.trans (hb1.mono Hbn.out.size), hfine'⟩
    case measure => simp [intOf]; omega
  ·obtain rfl : k = fs.length := by omega
   obtain ⟨wo, rfl⟩ : ∃ wo : World, wo = wr := ⟨_, rfl⟩
   have hfine2 := fine_all hfine
   have Hfine2 := Lib.hid hfine2
   have Hfine := Lib.hid hfine
   clear hfine hfine2
   have hsz := hbel.size
   -- what the second loop begins with
   have hstart : LayRel w w.heap.size (wo.heap.size + 1) wo.heap.size fs 0 ((wo.alloc (.cells #[.slice none 0 0] 75)).alloc (.cells #[.pointer (some ⟨wo.heap.size, 0, none⟩)] 87)) := by
    refine ⟨(hbel.alloc hbel.size _).alloc (by simp; omega) _, ⟨?_, .slice none 0 0, (Row.made wo _ _).behindNew _, ?_⟩, by simp [allBytes]⟩
    ·have := Row.made (wo.alloc (.cells #[.slice none 0 0] 75)) 87 #[.pointer (some ⟨wo.heap.size, 0, none⟩)]
     simpa using this
    ·simpa [allBytes, Lib.byteCells] using World.ownsRow_nil _ _ _ _
   have Hstart := Lib.hid hstart
   clear hstart
   go_wp2_with (go_at_call 55; refine (layer_any _ _).mono ?_; rintro e w1 ⟨rfl, rfl⟩)
   go_loopw [29] (fun i wx => ∃ j : Nat, j ≤ fs.length ∧ i = .int .i64 j ∧ LayRel w w.heap.size (wo.heap.size + 1) wo.heap.size fs j wx) (fun i _ => fs.length - (intOf i).toNat)
   case atStart => exact ⟨0, Nat.zero_le _, rfl, Hstart.out⟩
   case round =>
    obtain ⟨j, hj, rfl, hrel2⟩ := hrel
    by_cases hlt2 : j < fs.length
    ·obtain ⟨f, hf⟩ : ∃ f, fs[j]? = some f := ⟨fs[j], List.getElem?_eq_getElem hlt2⟩
     have hpos : 0 ≤ f.head := Hfine.out j f hf hlt2
     obtain ⟨c0, c1, c2⟩ := (Hf.out.below hrel2.1 hb) j f hf
     have HF := Lib.hid hf
     clear hf
     have Hrel := Lib.hid (hrel2.new (Nat.le_refl _) (.cells #[.int .i64 f.num, .string f.txt, .bool f.isT] 72))
     by_cases hle : (allBytes (fs.take (j + 1))).length ≤ 65536
     ·have Hle := Lib.hid hle
      clear hle hrel2
      go_wp2_with (go_at_call 67; refine (layer_yes Hrel.out hsz (Nat.le_refl _) HF.out Hfit.out hpos Hle.out).mono ?_; rintro e w1 ⟨rfl, hr1⟩)
      go_roundw
      case rel => exact ⟨j + 1, by omega, by go_num, hr1⟩
      case measure => simp [intOf]; omega
     ·have Hle := Lib.hid (show 65536 < (allBytes (fs.take (j + 1))).length by omega)
      clear hle hrel2
      have hfin : Hid (layOf fs = ([], 4)) := by
       have := allBytes_le fs (j + 1)
       have := Hle.out
       unfold layOf
       rw [if_neg (by rw [Hfine2.out]; simp), if_pos (by omega)]
       rfl
      go_wp2_with (go_at_call 67; refine (layer_no Hrel.out hsz (Nat.le_refl _) HF.out Hfit.out hpos Hle.out).mono ?_; rintro e w1 ⟨rfl, hr1⟩)
      go_ret2
      exact ⟨by rw [hfin.out]; rfl, hr1⟩
    ·obtain rfl : j = fs.length := by omega
     obtain ⟨hb2, ⟨_, v, r2, own⟩, hle⟩ := hrel2
     have htext := run_text own
     have cd : wr.cell? ⟨wo.heap.size, 0, none⟩ = some v := r2.at 0
     have hfin : Hid (layOf fs = (allBytes fs, 0)) := by
      rw [List.take_length] at hle
      unfold layOf
      rw [if_neg (by rw [Hfine2.out]; simp), if_neg (by omega)]
      rfl
     clear own r2 hle
     go_wp2
     go_ret2
     exact ⟨by rw [hfin.out]; rfl, hb2⟩
open Go.RowKit
structure Kept (F : Nat → Prop) (w w' : World) : Prop where
 os : w'.os = w.os
 tape : w'.tape = w.tape
 output : w'.output = w.output
 size : w.heap.size ≤ w'.heap.size
 block : ∀ k, k < w.heap.size → ¬ F k → w'.heap[k]? = w.heap[k]?
def Grow (F : Nat → Prop) (w w' : World) (k : Nat) : Prop := F k ∨ (w.heap.size ≤ k ∧ k < w'.heap.size)
section
variable {F G : Nat → Prop} {a b c w w' : World}
theorem Kept.refl (F : Nat → Prop) (w : World) : Kept F w w := ⟨rfl, rfl, rfl, Nat.le_refl _, fun _ _ _ => rfl⟩
theorem Kept.trans (h : Kept F a b) (k : Kept G b c) (hG : ∀ i, i < a.heap.size → G i → F i) : Kept F a c :=
 ⟨k.os.trans h.os, k.tape.trans h.tape, k.output.trans h.output, Nat.le_trans h.size k.size, fun i hi hn => (k.block i (Nat.lt_of_lt_of_le hi h.size) (fun hg => hn (hG i hi hg))).trans (h.block i hi hn)⟩
theorem Kept.mono (h : Kept F a b) (hF : ∀ i, F i → G i) : Kept G a b := ⟨h.os, h.tape, h.output, h.size, fun i hi hn => h.block i hi (fun hf => hn (hF i hf))⟩
theorem Kept.ofBelow (h : Below a.heap.size a b) (F : Nat → Prop) : Kept F a b := ⟨h.os, h.tape, h.output, h.size, fun i hi _ => h.block i hi⟩
theorem Kept.ofGrown {r : Option Nat} (h : a.grownBy b r) (hr : ∀ i, r = some i → F i) : Kept F a b := ⟨h.os, h.tape, h.output, h.size, fun i hi hn => h.block i hi (fun e => hn (hr i e.symm))⟩
theorem Kept.grown {i : Nat} (h : Kept (fun k => k = i) a b) : a.grownBy b (some i) := ⟨h.os, h.tape, h.output, h.size, fun k hk hn => h.block k hk (fun e => hn (by rw [e]))⟩
theorem Kept.below (h : Kept F a b) {B : Nat} (hB : B ≤ a.heap.size) (hF : ∀ i, F i → B ≤ i) : Below B a b := ⟨h.os, h.tape, h.output, h.size, fun i hi => h.block i (by omega) (fun hf => by have := hF i hf; omega)⟩
theorem Kept.drew (h : Kept F a b) : Kept F a b.drew := ⟨h.os, h.tape, h.output, h.size, h.block⟩
theorem Kept.alloc (h : Kept F a b) (o : Obj) : Kept F a (b.alloc o) :=
 h.trans (G := F) ⟨rfl, rfl, rfl, by simp, fun i hi _ => Below.heap_alloc b o i hi⟩ (fun _ _ h => h)
theorem Kept.stored (h : Kept F a b) {p : Addr} (hp : F p.block ∨ a.heap.size ≤ p.block) (u : Value) : Kept F a (b.setCell p u) :=
 ⟨h.os, h.tape, h.output, by simpa [World.setCell] using h.size, fun i hi hn => by
  rcases hp with hp | hp
  ·exact (Below.heap_setCell b p u i (fun e => hn (by rw [e]; exact hp))).trans (h.block i hi hn)
  ·exact (Below.heap_setCell b p u i (by omega)).trans (h.block i hi hn)⟩
theorem Grow.old {k : Nat} (h : F k) : Grow F a b k := Or.inl h
theorem Grow.lt {k : Nat} (h : Grow F a b k) (hF : ∀ k, F k → k < a.heap.size) (hs : a.heap.size ≤ b.heap.size) : k < b.heap.size := by
 rcases h with h | h
 ·exact Nat.lt_of_lt_of_le (hF k h) hs
 ·exact h.2
theorem Grow.trans {k : Nat} (h : Grow (Grow F a b) b c k) (hab : a.heap.size ≤ b.heap.size) (hbc : b.heap.size ≤ c.heap.size) : Grow F a c k := by
 rcases h with (h | h) | h
 ·exact Or.inl h
 ·exact Or.inr ⟨h.1, by omega⟩
 ·exact Or.inr ⟨by omega, h.2⟩
theorem Kept.same (h : Kept F w w') {k : Nat} (hk : k < w.heap.size) (hn : ¬ F k) : w'.heap[k]? = w.heap[k]? := h.block k hk hn
theorem Kept.cell (h : Kept F w w') {p : Addr} (hk : p.block < w.heap.size) (hn : ¬ F p.block) : w'.cell? p = w.cell? p := World.cell?_of_block (w := w) (h.block p.block hk hn)
theorem Row.kept {t : TypeId} {i : Nat} {cs : Array Value} (hr : Row w i t cs) (h : Kept F w w') (hn : ¬ F i) : Row w' i t cs := (h.block i hr.inHeap hn).trans hr
end
def Cells (w : World) (F : Nat → Prop) (v : Value) (us : List Value) : Prop :=
 ∃ A cap, v = .slice A us.length cap ∧ us.length ≤ cap ∧ (0 < us.length → ∃ b o, A = some ⟨b, o, none⟩ ∧ F b ∧ b < w.heap.size ∧ ∀ i u, us[i]? = some u → w.cell? ⟨b, o + i, none⟩ = some u)
section
variable {F G : Nat → Prop} {w w' : World} {v : Value} {us : List Value}
theorem Cells.none (w : World) (F : Nat → Prop) : Cells w F (.slice none 0 0) [] := ⟨Option.none, 0, rfl, Nat.le_refl _, fun h => absurd h (by simp)⟩
theorem Cells.kept (h : Cells w F v us) (k : Kept G w w') (hd : ∀ i, F i → ¬ G i) : Cells w' F v us := by
 obtain ⟨A, cap, h1, h2, h3⟩ := h
 refine ⟨A, cap, h1, h2, fun hp => ?_⟩
 obtain ⟨b, o, e, hb, hl, hc⟩ := h3 hp
 exact ⟨b, o, e, hb, Nat.lt_of_lt_of_le hl k.size, fun i u hu => (k.cell (p := ⟨b, o + i, Option.none⟩) hl (hd b hb)).trans (hc i u hu)⟩
theorem Cells.mono (h : Cells w F v us) (hF : ∀ i, F i → G i) : Cells w G v us := by
 obtain ⟨A, cap, h1, h2, h3⟩ := h
 refine ⟨A, cap, h1, h2, fun hp => ?_⟩
 obtain ⟨b, o, e, hb, r⟩ := h3 hp
 exact ⟨b, o, e, hF b hb, r⟩
theorem Cells.ofOwn {base t n : Nat} (h : w.ownsRow base t 1 v n us) (hF : ∀ b, v.ownBlock = some b → base ≤ b → b < w.heap.size → F b) : Cells w F v us := by
 have hn : us.length = n := by rw [h.1, Nat.mul_one]
 subst hn
 rcases h.2 with ⟨hv, h0⟩ | ⟨g, cap, cur, hv, hb, hg, hc, hm, hs, ht⟩
 ·rw [hv]
  have : us = [] := List.eq_nil_of_length_eq_zero h0
  rw [this]
  exact Cells.none _ _
 ·refine ⟨some ⟨g, 0, Option.none⟩, cap, hv, hc, fun _ => ⟨g, 0, rfl, hF g (by rw [hv]; rfl) hb (lt_of_block hg), lt_of_block hg, fun i u hu => ?_⟩⟩
  rw [cell_of_row w g _ cur t (0, 0) hg, Nat.zero_add]
  rw [← ht, List.getElem?_take] at hu
  split at hu
  ·rw [Array.getElem?_toList] at hu; exact hu
  ·cases hu
end
open Go.RowKit
def Rws {α : Type} (k : Nat) (f : α → List Value) (w : World) (F : Nat → Prop) (v : Value) (l : List α) : Prop :=
 ∃ A cap, v = .slice A l.length cap ∧ l.length ≤ cap ∧ (0 < l.length → ∃ b o, A = some ⟨b, o, none⟩ ∧ F b ∧ b < w.heap.size ∧ ∀ i x, l[i]? = some x → ∀ j u, (f x)[j]? = some u → w.cell? ⟨b, o + i * k + j, none⟩ = some u)
section
variable {α : Type} {k : Nat} {f : α → List Value} {w w' : World} {F G : Nat → Prop} {v : Value} {l : List α}
theorem Rws.none (w : World) (F : Nat → Prop) (c : Nat) : Rws k f w F (.slice none 0 c) [] := ⟨Option.none, c, rfl, Nat.zero_le _, fun h => absurd h (by simp)⟩
theorem Rws.empty (w : World) (F : Nat → Prop) (A : Option Addr) (c : Nat) : Rws k f w F (.slice A 0 c) [] := ⟨A, c, rfl, Nat.zero_le _, fun h => absurd h (by simp)⟩
theorem Rws.kept (h : Rws k f w F v l) (hk : Kept G w w') (hd : ∀ i, F i → ¬ G i) : Rws k f w' F v l := by
 obtain ⟨A, cap, h1, h2, h3⟩ := h
 refine ⟨A, cap, h1, h2, fun hp => ?_⟩
 obtain ⟨b, o, e, hb, hl, hc⟩ := h3 hp
 exact ⟨b, o, e, hb, Nat.lt_of_lt_of_le hl hk.size, fun i x hx j u hu => (hk.cell (p := ⟨b, _, Option.none⟩) hl (hd b hb)).trans (hc i x hx j u hu)⟩
theorem Rws.below (h : Rws k f w F v l) (hk : Below w.heap.size w w') : Rws k f w' F v l := h.kept (Kept.ofBelow hk (fun _ => False)) (fun _ _ h => h)
theorem Rws.mono (h : Rws k f w F v l) (hF : ∀ i, F i → G i) : Rws k f w G v l := by
 obtain ⟨A, cap, h1, h2, h3⟩ := h
 refine ⟨A, cap, h1, h2, fun hp => ?_⟩
 obtain ⟨b, o, e, hb, r⟩ := h3 hp
 exact ⟨b, o, e, hF b hb, r⟩
theorem Rws.lt (h : Rws k f w F v l) : Rws k f w (fun i => F i ∧ i < w.heap.size) v l := by
 obtain ⟨A, cap, h1, h2, h3⟩ := h
 refine ⟨A, cap, h1, h2, fun hp => ?_⟩
 obtain ⟨b, o, e, hb, r⟩ := h3 hp
 exact ⟨b, o, e, ⟨hb, r.1⟩, r⟩
theorem rows_at : ∀ (l : List α), (∀ x ∈ l, (f x).length = k) → ∀ (i : Nat) (x : α), l[i]? = some x → ∀ (j : Nat) (u : Value), (f x)[j]? = some u → (l.flatMap f)[i * k + j]? = some u
 | [], _, i, x, hx, _, _, _ => by cases hx
 | y :: l, hk, 0, x, hx, j, u, hu => by
  simp at hx
  subst hx
  rw [List.flatMap_cons, Nat.zero_mul, Nat.zero_add, List.getElem?_append_left (by obtain ⟨h, _⟩ := List.getElem?_eq_some_iff.1 hu; exact h)]
  exact hu
 | y :: l, hk, i + 1, x, hx, j, u, hu => by
  have hy := hk y (by simp)
  rw [List.flatMap_cons, List.getElem?_append_right (by rw [hy, Nat.add_one_mul]; omega), hy]
  have e : (i + 1) * k + j - k = i * k + j := by rw [Nat.add_one_mul]; omega
  rw [e]
  exact rows_at l (fun z hz => hk z (List.mem_cons_of_mem _ hz)) i x (by simpa using hx) j u hu
theorem rows_of : ∀ (l : List α), (∀ x ∈ l, (f x).length = k) → ∀ (m : Nat) (u : Value), (l.flatMap f)[m]? = some u → ∃ i x j, l[i]? = some x ∧ (f x)[j]? = some u ∧ m = i * k + j
 | [], _, m, u, h => by simp at h
 | y :: l, hk, m, u, h => by
  have hy := hk y (by simp)
  rw [List.flatMap_cons] at h
  by_cases hm : m < k
  ·rw [List.getElem?_append_left (by omega)] at h
   exact ⟨0, y, m, rfl, h, by omega⟩
  ·rw [List.getElem?_append_right (by omega), hy] at h
   obtain ⟨i, x, j, h1, h2, h3⟩ := rows_of l (fun z hz => hk z (List.mem_cons_of_mem _ hz)) _ u h
   exact ⟨i + 1, x, j, by simpa using h1, h2, by rw [Nat.add_one_mul]; omega⟩
theorem rows_len : ∀ (l : List α), (∀ x ∈ l, (f x).length = k) → (l.flatMap f).length = l.length * k
 | [], _ => by simp
 | y :: l, hk => by
  rw [List.flatMap_cons, List.length_append, rows_len l (fun z hz => hk z (List.mem_cons_of_mem _ hz)), hk y (by simp), List.length_cons, Nat.add_one_mul]
  omega
theorem Rws.ofOwn {base t n : Nat} (h : w.ownsRow base t k v n (l.flatMap f)) (hl : l.length = n) (hk : ∀ x ∈ l, (f x).length = k) (hF : ∀ b, v.ownBlock = some b → base ≤ b → b < w.heap.size → F b) : Rws k f w F v l := by
 subst hl
 rcases h.2 with ⟨hv, h0⟩ | ⟨g, cap, cur, hv, hb, hg, hc, hm, hs, ht⟩
 ·rw [hv]
  have : l = [] := List.eq_nil_of_length_eq_zero h0
  rw [this]
  exact Rws.none _ _ _
 ·refine ⟨some ⟨g, 0, Option.none⟩, cap, hv, hc, fun _ => ⟨g, 0, rfl, hF g (by rw [hv]; rfl) hb (lt_of_block hg), lt_of_block hg, fun i x hx j u hu => ?_⟩⟩
  have hr := rows_at l hk i x hx j u hu
  rw [cell_of_row w g _ cur t (0, 0) hg, Nat.zero_add]
  rw [← ht, List.getElem?_take] at hr
  split at hr
  ·rw [Array.getElem?_toList] at hr; exact hr
  ·cases hr
theorem Rws.take (h : Rws k f w F v l) {A : Option Addr} {cap : Nat} (hv : v = .slice A l.length cap) (i : Nat) (hi : i ≤ l.length) (c : Nat) (hc : i ≤ c) : Rws k f w F (.slice A i c) (l.take i) := by
 obtain ⟨B, cap', h1, h2, h3⟩ := h
 rw [h1] at hv
 injection hv with e1 e2 e3
 subst e1
 have hl : (l.take i).length = i := by rw [List.length_take]; omega
 refine ⟨B, c, by rw [hl], by rw [hl]; exact hc, fun hp => ?_⟩
 rw [hl] at hp
 obtain ⟨b, o, e, hb, hlt, hcl⟩ := h3 (by omega)
 exact ⟨b, o, e, hb, hlt, fun m x hx => hcl m x (by rw [List.getElem?_take] at hx; split at hx; exact hx; cases hx)⟩
theorem Rws.drop (h : Rws k f w F v l) {b o cap : Nat} (hv : v = .slice (some ⟨b, o, Option.none⟩) l.length cap) (i : Nat) (hi : i ≤ l.length) (c : Nat) (hc : l.length - i ≤ c) : Rws k f w F (.slice (some ⟨b, o + i * k, Option.none⟩) (l.length - i) c) (l.drop i) := by
 obtain ⟨B, cap', h1, h2, h3⟩ := h
 rw [h1] at hv
 injection hv with e1 e2 e3
 subst e1
 have hl : (l.drop i).length = l.length - i := List.length_drop
 refine ⟨_, c, by rw [hl], by rw [hl]; exact hc, fun hp => ?_⟩
 rw [hl] at hp
 obtain ⟨b', o', e, hb, hlt, hcl⟩ := h3 (by omega)
 injection e with e
 injection e with e1 e2
 subst e1 e2
 refine ⟨b, o + i * k, rfl, hb, hlt, fun m x hx j u hu => ?_⟩
 rw [List.getElem?_drop] at hx
 have := hcl (i + m) x hx j u hu
 rw [show o + (i + m) * k + j = o + i * k + m * k + j by rw [Nat.add_mul]; omega] at this
 exact this
end
section
variable {P : Program} {α : Type} {k : Nat} {f : α → List Value}
theorem join_nothing {w : World} (base : Nat) (t ty e : TypeId) (i : TypeInfo) (size c : Nat) (ht : P.underlying t = some (.slice e)) (hi : P.info? e = some i) (v : Value) (n : Nat) (xs : List Value) (hown : w.ownsRow base e size v n xs) :
  (Builtin.append_ #[t, t] ty #[v, .slice none 0 c]).run P w = .ok v w := by
 rcases hown.2 with ⟨rfl, rfl⟩ | ⟨g, cap, cur, rfl, _, _, hnc, _⟩
 ·simp [Builtin.append_, run_underlying ht, sizeOf, typeInfo, hi, Builtin.lenOf, Builtin.firstCells]
 ·simp [Builtin.append_, run_underlying ht, sizeOf, typeInfo, hi, Builtin.lenOf, Builtin.firstCells, hnc, storeCells]
theorem join_rows {w : World} (base : Nat) (t ty e : TypeId) (i : TypeInfo) (z : Value) (bytes : Nat) (ht : P.underlying t = some (.slice e)) (hi : P.info? e = some i) (hz : i.zero = some z) (hsize : i.size = k) (hby : i.bytes = bytes) (hzs : z.cells.size = k) (hsz : 0 < k)
  {v xv : Value} {n : Nat} {xs : List Value} {F : Nat → Prop} {l : List α} (hown : w.ownsRow base e k v n xs) (hx : Rws k f w F xv l) (hk : ∀ x ∈ l, (f x).length = k) (h1 : ∀ x ∈ l, ∀ u ∈ f x, u.oneCell' = true)
  (h63 : n + l.length ≤ maxLen) (hbytes : (n + l.length) * bytes ≤ 140737488355328) (hbase : base ≤ w.heap.size) :
  ∃ v' w', (Builtin.append_ #[t, t] ty #[v, xv]).run P w = .ok v' w' ∧ w'.ownsRow base e k v' (n + l.length) (xs ++ l.flatMap f) ∧ w.grownBy w' v.ownBlock := by
 obtain ⟨A, c, rfl, hc, hat⟩ := hx
 have hone : ∀ u ∈ l.flatMap f, u.oneCell' = true := by
  intro u hu
  obtain ⟨x, hx, hu⟩ := List.mem_flatMap.1 hu
  exact h1 x hx u hu
 have hgo : ∀ ad : Addr, A = some ad → (∀ j u, (l.flatMap f)[j]? = some u → w.cell? (ad.add j) = some u) → ∃ v' w', (Builtin.append_ #[t, t] ty #[v, .slice A l.length c]).run P w = .ok v' w' ∧ w'.ownsRow base e k v' (n + l.length) (xs ++ l.flatMap f) ∧ w.grownBy w' v.ownBlock := by
  rintro ad rfl hnews
  obtain ⟨v', w', r1, r2, r3, -⟩ := run_append_own w base t ty e i z k bytes ht hi hz hsize hby hzs hsz v n xs hown ad l.length c (l.flatMap f) (rows_len l hk) hnews hone h63 hbytes hbase
  exact ⟨v', w', r1, r2, r3⟩
 by_cases h0 : 0 < l.length
 ·obtain ⟨b, o, rfl, -, hbl, hcell⟩ := hat h0
  refine hgo _ rfl (fun j u hu => ?_)
  obtain ⟨m, x, r, e1, e2, rfl⟩ := rows_of l hk j u hu
  rw [Go.WideShapes.add_plain, ← Nat.add_assoc]
  exact hcell m x e1 r u e2
 ·have hl : l = [] := List.eq_nil_of_length_eq_zero (by omega)
  subst hl
  cases A with
  | none => exact ⟨v, w, join_nothing base t ty e i k c ht hi v n xs hown, by simpa using hown, rfl, rfl, rfl, Nat.le_refl _, fun _ _ _ => rfl⟩
  | some ad => exact hgo ad rfl (fun j u hu => by simp at hu)
end
open Go.RowKit
def mk (l : List UInt8) : ByteArray := ⟨l.toArray⟩
theorem mk_data (l : List UInt8) : (mk l).data.toList = l := rfl
theorem mk_len (l : List UInt8) : (mk l).size = l.length := by rw [Lib.size_eq]; rfl
theorem mk_of (s : ByteArray) : mk s.data.toList = s := bytes_ext rfl
theorem mk_append (a b : List UInt8) : mk a ++ mk b = mk (a ++ b) := bytes_ext (by rw [ByteArray.data_append, Array.toList_append]; rfl)
def texts (l : List (List UInt8)) : List Value := l.map fun t => Value.string (mk t)
def NewIn (w w' : World) (k : Nat) : Prop := w.heap.size ≤ k ∧ k < w'.heap.size
end Go.Proofs.Ytpafpegcodempaa
