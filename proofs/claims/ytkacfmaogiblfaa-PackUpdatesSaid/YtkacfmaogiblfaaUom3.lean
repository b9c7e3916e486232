import Derived.Test.YtkacfmaogiblfaaUom2
import Derived.Test.YtkacfmaogiblfaaUom1
import Derived.Lib.BufferRead
import Derived.Deep.AppendLies
import Derived.Laws.AppendOwn
import Derived.Lib.Hide
import Derived.OwnWalk
import Derived.Tactics
import Derived.Deep.QuietTactic
import Derived.BigQuiet
import Derived.Deep.RegionWith
import Derived.WalkSpells
set_option maxRecDepth 100000
set_option linter.all false
set_option maxHeartbeats 12800000
namespace Go.Proofs.Ytkacfmaogiblfaa
open Go.RowKit
structure Fl where
 num : Int
 txt : ByteArray
 isT : Bool
def Fl.head (f : Fl) : Int := numOf f.num f.txt f.isT
def Fl.body (f : Fl) : ByteArray := strOf f.txt f.isT
def Fl.bytes (f : Fl) : List UInt8 := Leb.enc f.head.toNat ++ f.body.data.toList
def allBytes (fs : List Fl) : List UInt8 := fs.flatMap Fl.bytes
def FieldsAt (w : World) (b off : Nat) (fs : List Fl) : Prop := ∀ i f, fs[i]? = some f →
 w.cell? ⟨b, off + i * 3, none⟩ = some (.int .i64 f.num) ∧ w.cell? ⟨b, off + i * 3 + 1, none⟩ = some (.string f.txt) ∧ w.cell? ⟨b, off + i * 3 + 2, none⟩ = some (.bool f.isT)
theorem FieldsAt.below {w w' : World} {b off B : Nat} {fs : List Fl} (h : FieldsAt w b off fs) (hb : Below B w w') (hB : b < B) : FieldsAt w' b off fs := fun i f hf => by
 obtain ⟨h1, h2, h3⟩ := h i f hf
 exact ⟨(hb.cell (p := ⟨b, _, none⟩) hB).trans h1, (hb.cell (p := ⟨b, _, none⟩) hB).trans h2, (hb.cell (p := ⟨b, _, none⟩) hB).trans h3⟩
def layOf (fs : List Fl) : List UInt8 × Int :=
 if fs.any (fun f => decide (f.head < 0)) then ([], 3) else if 65536 < (allBytes fs).length then ([], 4) else (allBytes fs, 0)
def Fits (fs : List Fl) : Prop := ∀ (i : Nat) (f : Fl), fs[i]? = some f → f.head < 9223372036854775808 ∧ f.body.size ≤ 9223372036854775807
theorem parts_fl (f : Fl) (w : World) :
  Calls Try.prog 105 #[.agg #[.int .i64 f.num, .string f.txt, .bool f.isT]] w fun e w' => e = .returned (.tuple #[.int .i64 f.head, .string f.body]) ∧ Below w.heap.size w w' :=
 parts_any f.num f.txt f.isT w
theorem layer_any (d : Nat) (w : World) :
  Calls Try.prog 106 #[.pointer (some ⟨d, 0, none⟩)] w fun e w' =>
   e = .returned (.func (.func 122) #[] #[.pointer (some ⟨w.heap.size, 0, none⟩)]) ∧ w.alloc (.cells #[.pointer (some ⟨d, 0, none⟩)] 145) = w' := by
 go_enter Try.func106, Try.ntmps106
 go_wp2
 go_ret
 exact ⟨rfl, rfl⟩
theorem run_text {w : World} {base : Nat} {v : Value} {l : List UInt8} (h : w.ownsRow base 5 1 v l.length (Lib.byteCells l)) :
  (convert 128 9 v).run Try.prog w = .ok (.string ⟨l.toArray⟩) w := by
 rcases h.2 with ⟨hv, h0⟩ | ⟨g, cap, cur, hv, _⟩
 ·have : l = [] := List.eq_nil_of_length_eq_zero h0
  subst this
  rw [hv]
  exact Lib.run_convert_nil_bytes (P := Try.prog) w 128 9 5 0 Try.underlying128 Try.underlying5 Try.underlying9
 ·have hcells := h.cells (g := g) (by rw [hv]; rfl)
  rw [hv]
  refine run_convert_bytes_back (P := Try.prog) w 128 9 5 ⟨g, 0, none⟩ cap l Try.underlying128 Try.underlying5 Try.underlying9 (fun j hj => hcells j _ ?_)
  simp [Lib.byteCells, hj]
theorem allBytes_snoc (fs : List Fl) (k : Nat) (f : Fl) (hf : fs[k]? = some f) : allBytes (fs.take (k + 1)) = allBytes (fs.take k) ++ Leb.enc f.head.toNat ++ f.body.data.toList := by
 obtain ⟨hl, he⟩ := List.getElem?_eq_some_iff.1 hf
 rw [List.take_succ_eq_append_getElem hl, he]
 simp [allBytes, Fl.bytes, List.append_assoc]
theorem allBytes_le (fs : List Fl) (k : Nat) : (allBytes (fs.take k)).length ≤ (allBytes fs).length := by
 have : allBytes fs = allBytes (fs.take k) ++ allBytes (fs.drop k) := by
  unfold allBytes
  rw [← List.flatMap_append, List.take_append_drop]
 rw [this, List.length_append]
 omega
def LayPost (w : World) (fs : List Fl) (e : Ending) (w' : World) : Prop :=
 e = .returned (.tuple #[.string ⟨(layOf fs).1.toArray⟩, .int .i64 (layOf fs).2]) ∧ Below w.heap.size w w'
def Fine (fs : List Fl) (k : Nat) : Prop := ∀ j f, fs[j]? = some f → j < k → 0 ≤ f.head
theorem fine_all {fs : List Fl} (h : Fine fs fs.length) : fs.any (fun f => decide (f.head < 0)) = false := by
 rw [List.any_eq_false]
 intro f hf
 obtain ⟨i, hi, he⟩ := List.mem_iff_getElem.1 hf
 have := h i f (by rw [List.getElem?_eq_getElem hi, he]) hi
 simp; omega
def LayRel (w : World) (base c d : Nat) (fs : List Fl) (k : Nat) (wr : World) : Prop :=
 Below base w wr ∧ BLaid wr base c d (allBytes (fs.take k)) ∧ (allBytes (fs.take k)).length ≤ 65536
theorem LayRel.new {w wr : World} {base c d k : Nat} {fs : List Fl} (h : LayRel w base c d fs k wr) (hB : base ≤ w.heap.size) (o : Obj) : LayRel w base c d fs k (wr.alloc o) :=
 ⟨h.1.alloc (Nat.le_trans hB h.1.size) o, h.2.1.below ((Below.refl _ _).alloc (Nat.le_refl _) o), h.2.2⟩
theorem layer_yes {w W : World} {base c d k : Nat} {fs : List Fl} {f : Fl} (h : LayRel w base c d fs k W) (hd : base ≤ d) (hB : base ≤ w.heap.size) (hf : fs[k]? = some f) (hfit : Fits fs) (hpos : 0 ≤ f.head)
  (hle : (allBytes (fs.take (k + 1))).length ≤ 65536) :
  Calls Try.prog 122 #[.agg #[.int .i64 f.num, .string f.txt, .bool f.isT], .pointer (some ⟨c, 0, none⟩)] W fun e w' => e = .returned (.bool true) ∧ LayRel w base c d fs (k + 1) w' := by
 obtain ⟨h1, h2, h3⟩ := h
 have hs := allBytes_snoc fs k f hf
 have hlen : (allBytes (fs.take (k + 1))).length = (allBytes (fs.take k)).length + (Leb.enc f.head.toNat).length + f.body.size := by
  rw [hs, List.length_append, List.length_append, ← Lib.size_eq]
 refine (layer_field f.num f.txt f.isT h2 hd (Nat.le_trans hB h1.size) h3 hpos (hfit k f hf).1 (hfit k f hf).2).mono ?_
 rintro e w' ⟨k1, k2⟩
 have k2' : if 65536 - ((allBytes (fs.take k)).length : Int) < f.body.size then e = .returned (.bool false) else
  e = .returned (.bool (decide (((allBytes (fs.take k)).length : Int) + ((Leb.enc f.head.toNat).length : Int) + (f.body.size : Int) ≤ 65536))) ∧ BLaid w' base c d (allBytes (fs.take k) ++ Leb.enc f.head.toNat ++ f.body.data.toList) := k2
 rw [if_neg (by omega)] at k2'
 obtain ⟨k3, k4⟩ := k2'
 refine ⟨?_, h1.trans k1, by rw [hs]; exact k4, hle⟩
 rw [k3, decide_eq_true (by omega)]
theorem layer_no {w W : World} {base c d k : Nat} {fs : List Fl} {f : Fl} (h : LayRel w base c d fs k W) (hd : base ≤ d) (hB : base ≤ w.heap.size) (hf : fs[k]? = some f) (hfit : Fits fs) (hpos : 0 ≤ f.head)
  (hle : 65536 < (allBytes (fs.take (k + 1))).length) :
  Calls Try.prog 122 #[.agg #[.int .i64 f.num, .string f.txt, .bool f.isT], .pointer (some ⟨c, 0, none⟩)] W fun e w' => e = .returned (.bool false) ∧ Below base w w' := by
 obtain ⟨h1, h2, h3⟩ := h
 have hs := allBytes_snoc fs k f hf
 have hlen : (allBytes (fs.take (k + 1))).length = (allBytes (fs.take k)).length + (Leb.enc f.head.toNat).length + f.body.size := by
  rw [hs, List.length_append, List.length_append, ← Lib.size_eq]
 refine (layer_field f.num f.txt f.isT h2 hd (Nat.le_trans hB h1.size) h3 hpos (hfit k f hf).1 (hfit k f hf).2).mono ?_
 rintro e w' ⟨k1, k2⟩
 have k2' : if 65536 - ((allBytes (fs.take k)).length : Int) < f.body.size then e = .returned (.bool false) else
  e = .returned (.bool (decide (((allBytes (fs.take k)).length : Int) + ((Leb.enc f.head.toNat).length : Int) + (f.body.size : Int) ≤ 65536))) ∧ BLaid w' base c d (allBytes (fs.take k) ++ Leb.enc f.head.toNat ++ f.body.data.toList) := k2
 refine ⟨?_, h1.trans k1⟩
 split at k2'
 ·exact k2'
 ·rw [k2'.1, decide_eq_false (by omega)]
theorem lay_any {w : World} {b off cap : Nat} {fs : List Fl} (h : FieldsAt w b off fs) (hb : b < w.heap.size) (hlen : fs.length ≤ 70000) (hfit : Fits fs) :
  Calls Try.prog 72 #[.slice (some ⟨b, off, none⟩) fs.length cap] w (LayPost w fs) := by
 have Hf := Lib.hid h
 have Hfit := Lib.hid hfit
 have hlen' : (fs.length : Int) ≤ 70000 := by omega
 clear h hlen hfit
 go_enter Try.func72, Try.ntmps72
 go_wp2
 go_loopw [14] (fun i wr => ∃ k : Nat, k ≤ fs.length ∧ i = .int .i64 k ∧ Below w.heap.size w wr ∧ Fine fs k) (fun i _ => fs.length - (intOf i).toNat)
 case atStart => exact ⟨0, Nat.zero_le _, rfl, Below.refl _ _, fun j f _ hj => absurd hj (by omega)⟩
 case round =>
  obtain ⟨k, hk, rfl, hbel, hfine⟩ := hrel
  by_cases hlt : k < fs.length
  ·obtain ⟨f, hf⟩ : ∃ f, fs[k]? = some f := ⟨fs[k], List.getElem?_eq_getElem hlt⟩
   obtain ⟨c0, c1, c2⟩ := (Hf.out.below hbel hb) k f hf
   have HF := Lib.hid hf
   clear hf
   have hbn : Below w.heap.size w (wr.alloc (.cells #[.int .i64 f.num, .string f.txt, .bool f.isT] 120)) := hbel.alloc hbel.size _
   have Hbn := Lib.hid hbn
   clear hbn
   by_cases hneg : f.head < 0
   ·have hfin : Hid (layOf fs = ([], 3)) := by
     unfold layOf
     rw [if_pos]
     ·rfl
     ·exact List.any_eq_true.2 ⟨f, List.mem_of_getElem? HF.out, by simpa using hneg⟩
    go_wp2_with (go_at_call 105; refine (parts_fl f _).mono ?_; rintro e w1 ⟨rfl, hb1⟩)
    go_ret2
    exact ⟨by rw [hfin.out]; rfl, Hbn.out.trans (hb1.mono Hbn.out.size)⟩
   ·have hpos : 0 ≤ f.head := by omega
    have hfine' : Fine fs (k + 1) := by
     intro j g hg hj
     by_cases hjk : j = k
     ·subst hjk
      rw [HF.out] at hg
      injection hg with hg
      rw [← hg]; exact hpos
     ·exact hfine j g hg (by omega)
    clear hneg hfine
    go_wp2_with (go_at_call 105; refine (parts_fl f _).mono ?_; rintro e w1 ⟨rfl, hb1⟩)
    go_roundw
    case rel => exact ⟨k + 1, by omega, by go_num, Hbn.out.trans (hb1.mono Hbn.out.size), hfine'⟩
    case measure => simp [intOf]; omega
  ·obtain rfl : k = fs.length := by omega
   obtain ⟨wo, rfl⟩ : ∃ wo : World, wo = wr := ⟨_, rfl⟩
   have hfine2 := fine_all hfine
   have Hfine2 := Lib.hid hfine2
   have Hfine := Lib.hid hfine
   clear hfine hfine2
   have hsz := hbel.size
   -- what the second loop begins with
   have hstart : LayRel w w.heap.size (wo.heap.size + 1) wo.heap.size fs 0 ((wo.alloc (.cells #[.slice none 0 0] 128)).alloc (.cells #[.pointer (some ⟨wo.heap.size, 0, none⟩)] 145)) := by
    refine ⟨(hbel.alloc hbel.size _).alloc (by simp; omega) _, ⟨?_, .slice none 0 0, (Row.made wo _ _).behindNew _, ?_⟩, by simp [allBytes]⟩
    ·have := Row.made (wo.alloc (.cells #[.slice none 0 0] 128)) 145 #[.pointer (some ⟨wo.heap.size, 0, none⟩)]
     simpa using this
    ·simpa [allBytes, Lib.byteCells] using World.ownsRow_nil _ _ _ _
   have Hstart := Lib.hid hstart
   clear hstart
   go_wp2_with (go_at_call 106; refine (layer_any _ _).mono ?_; rintro e w1 ⟨rfl, rfl⟩)
   go_loopw [29] (fun i wx => ∃ j : Nat, j ≤ fs.length ∧ i = .int .i64 j ∧ LayRel w w.heap.size (wo.heap.size + 1) wo.heap.size fs j wx) (fun i _ => fs.length - (intOf i).toNat)
   case atStart => exact ⟨0, Nat.zero_le _, rfl, Hstart.out⟩
   case round =>
    obtain ⟨j, hj, rfl, hrel2⟩ := hrel
    by_cases hlt2 : j < fs.length
    ·obtain ⟨f, hf⟩ : ∃ f, fs[j]? = some f := ⟨fs[j], List.getElem?_eq_getElem hlt2⟩
     have hpos : 0 ≤ f.head := Hfine.out j f hf hlt2
     obtain ⟨c0, c1, c2⟩ := (Hf.out.below hrel2.1 hb) j f hf
     have HF := Lib.hid hf
     clear hf
     have Hrel := Lib.hid (hrel2.new (Nat.le_refl _) (.cells #[.int .i64 f.num, .string f.txt, .bool f.isT] 120))
     by_cases hle : (allBytes (fs.take (j + 1))).length ≤ 65536
     ·have Hle := Lib.hid hle
      clear hle hrel2
      go_wp2_with (go_at_call 122; refine (layer_yes Hrel.out hsz (Nat.le_refl _) HF.out Hfit.out hpos Hle.out).mono ?_; rintro e w1 ⟨rfl, hr1⟩)
      go_roundw
      case rel => exact ⟨j + 1, by omega, by go_num, hr1⟩
      case measure => simp [intOf]; omega
     ·have Hle := Lib.hid (show 65536 < (allBytes (fs.take (j + 1))).length by omega)
      clear hle hrel2
      have hfin : Hid (layOf fs = ([], 4)) := by
       have := allBytes_le fs (j + 1)
       have := Hle.out
       unfold layOf
       rw [if_neg (by rw [Hfine2.out]; simp), if_pos (by omega)]
       rfl
      go_wp2_with (go_at_call 122; refine (layer_no Hrel.out hsz (Nat.le_refl _) HF.out Hfit.out hpos Hle.out).mono ?_; rintro e w1 ⟨rfl, hr1⟩)
      go_ret2
      exact ⟨by rw [hfin.out]; rfl, hr1⟩
    ·obtain rfl : j = fs.length := by omega
     obtain ⟨hb2, ⟨_, v, r2, own⟩, hle⟩ := hrel2
     have htext := run_text own
     have cd : wr.cell? ⟨wo.heap.size, 0, none⟩ = some v := r2.at 0
     have hfin : Hid (layOf fs = (allBytes fs, 0)) := by
      rw [List.take_length] at hle
      unfold layOf
      rw [if_neg (by rw [Hfine2.out]; simp), if_neg (by omega)]
      rfl
     clear own r2 hle
     go_wp2
     go_ret2
     exact ⟨by rw [hfin.out]; rfl, hb2⟩
open Go.RowKit
structure Kept (F : Nat → Prop) (w w' : World) : Prop where
 os : w'.os = w.os
 tape : w'.tape = w.tape
 output : w'.output = w.output
 size : w.heap.size ≤ w'.heap.size
 block : ∀ k, k < w.heap.size → ¬ F k → w'.heap[k]? = w.heap[k]?
def Grow (F : Nat → Prop) (w w' : World) (k : Nat) : Prop := F k ∨ (w.heap.size ≤ k ∧ k < w'.heap.size)
section
variable {F G : Nat → Prop} {a b c w w' : World}
theorem Kept.refl (F : Nat → Prop) (w : World) : Kept F w w := ⟨rfl, rfl, rfl, Nat.le_refl _, fun _ _ _ => rfl⟩
theorem Kept.trans (h : Kept F a b) (k : Kept G b c) (hG : ∀ i, i < a.heap.size → G i → F i) : Kept F a c :=
 ⟨k.os.trans h.os, k.tape.trans h.tape, k.output.trans h.output, Nat.le_trans h.size k.size, fun i hi hn => (k.block i (Nat.lt_of_lt_of_le hi h.size) (fun hg => hn (hG i hi hg))).trans (h.block i hi hn)⟩
theorem Kept.mono (h : Kept F a b) (hF : ∀ i, F i → G i) : Kept G a b := ⟨h.os, h.tape, h.output, h.size, fun i hi hn => h.block i hi (fun hf => hn (hF i hf))⟩
theorem Kept.ofBelow (h : Below a.heap.size a b) (F : Nat → Prop) : Kept F a b := ⟨h.os, h.tape, h.output, h.size, fun i hi _ => h.block i hi⟩
theorem Kept.ofGrown {r : Option Nat} (h : a.grownBy b r) (hr : ∀ i, r = some i → F i) : Kept F a b := ⟨h.os, h.tape, h.output, h.size, fun i hi hn => h.block i hi (fun e => hn (hr i e.symm))⟩
theorem Kept.grown {i : Nat} (h : Kept (fun k => k = i) a b) : a.grownBy b (some i) := ⟨h.os, h.tape, h.output, h.size, fun k hk hn => h.block k hk (fun e => hn (by rw [e]))⟩
theorem Kept.below (h : Kept F a b) {B : Nat} (hB : B ≤ a.heap.size) (hF : ∀ i, F i → B ≤ i) : Below B a b := ⟨h.os, h.tape, h.output, h.size, fun i hi => h.block i (by omega) (fun hf => by have := hF i hf; omega)⟩
theorem Kept.drew (h : Kept F a b) : Kept F a b.drew := ⟨h.os, h.tape, h.output, h.size, h.block⟩
theorem Kept.alloc (h : Kept F a b) (o : Obj) : Kept F a (b.alloc o) :=
 h.trans (G := F) ⟨rfl, rfl, rfl, by simp, fun i hi _ => Below.heap_alloc b o i hi⟩ (fun _ _ h => h)
theorem Kept.stored (h : Kept F a b) {p : Addr} (hp : F p.block ∨ a.heap.size ≤ p.block) (u : Value) : Kept F a (b.setCell p u) :=
 ⟨h.os, h.tape, h.output, by simpa [World.setCell] using h.size, fun i hi hn => by
  rcases hp with hp | hp
  ·exact (Below.heap_setCell b p u i (fun e => hn (by rw [e]; exact hp))).trans (h.block i hi hn)
  ·exact (Below.heap_setCell b p u i (by omega)).trans (h.block i hi hn)⟩
theorem Grow.old {k : Nat} (h : F k) : Grow F a b k := Or.inl h
theorem Grow.lt {k : Nat} (h : Grow F a b k) (hF : ∀ k, F k → k < a.heap.size) (hs : a.heap.size ≤ b.heap.size) : k < b.heap.size := by
 rcases h with h | h
 ·exact Nat.lt_of_lt_of_le (hF k h) hs
 ·exact h.2
theorem Grow.trans {k : Nat} (h : Grow (Grow F a b) b c k) (hab : a.heap.size ≤ b.heap.size) (hbc : b.heap.size ≤ c.heap.size) : Grow F a c k := by
 rcases h with (h | h) | h
 ·exact Or.inl h
 ·exact Or.inr ⟨h.1, by omega⟩
 ·exact Or.inr ⟨by omega, h.2⟩
theorem Kept.same (h : Kept F w w') {k : Nat} (hk : k < w.heap.size) (hn : ¬ F k) : w'.heap[k]? = w.heap[k]? := h.block k hk hn
theorem Kept.cell (h : Kept F w w') {p : Addr} (hk : p.block < w.heap.size) (hn : ¬ F p.block) : w'.cell? p = w.cell? p := World.cell?_of_block (w := w) (h.block p.block hk hn)
theorem Row.kept {t : TypeId} {i : Nat} {cs : Array Value} (hr : Row w i t cs) (h : Kept F w w') (hn : ¬ F i) : Row w' i t cs := (h.block i hr.inHeap hn).trans hr
end
def Cells (w : World) (F : Nat → Prop) (v : Value) (us : List Value) : Prop :=
 ∃ A cap, v = .slice A us.length cap ∧ us.length ≤ cap ∧ (0 < us.length → ∃ b o, A = some ⟨b, o, none⟩ ∧ F b ∧ b < w.heap.size ∧ ∀ i u, us[i]? = some u → w.cell? ⟨b, o + i, none⟩ = some u)
section
variable {F G : Nat → Prop} {w w' : World} {v : Value} {us : List Value}
theorem Cells.none (w : World) (F : Nat → Prop) : Cells w F (.slice none 0 0) [] := ⟨Option.none, 0, rfl, Nat.le_refl _, fun h => absurd h (by simp)⟩
theorem Cells.kept (h : Cells w F v us) (k : Kept G w w') (hd : ∀ i, F i → ¬ G i) : Cells w' F v us := by
 obtain ⟨A, cap, h1, h2, h3⟩ := h
 refine ⟨A, cap, h1, h2, fun hp => ?_⟩
 obtain ⟨b, o, e, hb, hl, hc⟩ := h3 hp
 exact ⟨b, o, e, hb, Nat.lt_of_lt_of_le hl k.size, fun i u hu => (k.cell (p := ⟨b, o + i, Option.none⟩) hl (hd b hb)).trans (hc i u hu)⟩
theorem Cells.mono (h : Cells w F v us) (hF : ∀ i, F i → G i) : Cells w G v us := by
 obtain ⟨A, cap, h1, h2, h3⟩ := h
 refine ⟨A, cap, h1, h2, fun hp => ?_⟩
 obtain ⟨b, o, e, hb, r⟩ := h3 hp
 exact ⟨b, o, e, hF b hb, r⟩
theorem Cells.ofOwn {base t n : Nat} (h : w.ownsRow base t 1 v n us) (hF : ∀ b, v.ownBlock = some b → base ≤ b → b < w.heap.size → F b) : Cells w F v us := by
 have hn : us.length = n := by rw [h.1, Nat.mul_one]
 subst hn
 rcases h.2 with ⟨hv, h0⟩ | ⟨g, cap, cur, hv, hb, hg, hc, hm, hs, ht⟩
 ·rw [hv]
  have : us = [] := List.eq_nil_of_length_eq_zero h0
  rw [this]
  exact Cells.none _ _
 ·refine ⟨some ⟨g, 0, Option.none⟩, cap, hv, hc, fun _ => ⟨g, 0, rfl, hF g (by rw [hv]; rfl) hb (lt_of_block hg), lt_of_block hg, fun i u hu => ?_⟩⟩
  rw [cell_of_row w g _ cur t (0, 0) hg, Nat.zero_add]
  rw [← ht, List.getElem?_take] at hu
  split at hu
  ·rw [Array.getElem?_toList] at hu; exact hu
  ·cases hu
end
open Go.RowKit
def Rws {α : Type} (k : Nat) (f : α → List Value) (w : World) (F : Nat → Prop) (v : Value) (l : List α) : Prop :=
 ∃ A cap, v = .slice A l.length cap ∧ l.length ≤ cap ∧ (0 < l.length → ∃ b o, A = some ⟨b, o, none⟩ ∧ F b ∧ b < w.heap.size ∧ ∀ i x, l[i]? = some x → ∀ j u, (f x)[j]? = some u → w.cell? ⟨b, o + i * k + j, none⟩ = some u)
section
variable {α : Type} {k : Nat} {f : α → List Value} {w w' : World} {F G : Nat → Prop} {v : Value} {l : List α}
theorem Rws.none (w : World) (F : Nat → Prop) (c : Nat) : Rws k f w F (.slice none 0 c) [] := ⟨Option.none, c, rfl, Nat.zero_le _, fun h => absurd h (by simp)⟩
theorem Rws.kept (h : Rws k f w F v l) (hk : Kept G w w') (hd : ∀ i, F i → ¬ G i) : Rws k f w' F v l := by
 obtain ⟨A, cap, h1, h2, h3⟩ := h
 refine ⟨A, cap, h1, h2, fun hp => ?_⟩
 obtain ⟨b, o, e, hb, hl, hc⟩ := h3 hp
 exact ⟨b, o, e, hb, Nat.lt_of_lt_of_le hl hk.size, fun i x hx j u hu => (hk.cell (p := ⟨b, _, Option.none⟩) hl (hd b hb)).trans (hc i x hx j u hu)⟩
theorem Rws.below (h : Rws k f w F v l) (hk : Below w.heap.size w w') : Rws k f w' F v l := h.kept (Kept.ofBelow hk (fun _ => False)) (fun _ _ h => h)
theorem Rws.mono (h : Rws k f w F v l) (hF : ∀ i, F i → G i) : Rws k f w G v l := by
 obtain ⟨A, cap, h1, h2, h3⟩ := h
 refine ⟨A, cap, h1, h2, fun hp => ?_⟩
 obtain ⟨b, o, e, hb, r⟩ := h3 hp
 exact ⟨b, o, e, hF b hb, r⟩
theorem Rws.lt (h : Rws k f w F v l) : Rws k f w (fun i => F i ∧ i < w.heap.size) v l := by
 obtain ⟨A, cap, h1, h2, h3⟩ := h
 refine ⟨A, cap, h1, h2, fun hp => ?_⟩
 obtain ⟨b, o, e, hb, r⟩ := h3 hp
 exact ⟨b, o, e, ⟨hb, r.1⟩, r⟩
theorem rows_at : ∀ (l : List α), (∀ x ∈ l, (f x).length = k) → ∀ (i : Nat) (x : α), l[i]? = some x → ∀ (j : Nat) (u : Value), (f x)[j]? = some u → (l.flatMap f)[i * k + j]? = some u
 | [], _, i, x, hx, _, _, _ => by cases hx
 | y :: l, hk, 0, x, hx, j, u, hu => by
  simp at hx
  subst hx
  rw [List.flatMap_cons, Nat.zero_mul, Nat.zero_add, List.getElem?_append_left (by obtain ⟨h, _⟩ := List.getElem?_eq_some_iff.1 hu; exact h)]
  exact hu
 | y :: l, hk, i + 1, x, hx, j, u, hu => by
  have hy := hk y (by simp)
  rw [List.flatMap_cons, List.getElem?_append_right (by rw [hy, Nat.add_one_mul]; omega), hy]
  have e : (i + 1) * k + j - k = i * k + j := by rw [Nat.add_one_mul]; omega
  rw [e]
  exact rows_at l (fun z hz => hk z (List.mem_cons_of_mem _ hz)) i x (by simpa using hx) j u hu
theorem rows_of : ∀ (l : List α), (∀ x ∈ l, (f x).length = k) → ∀ (m : Nat) (u : Value), (l.flatMap f)[m]? = some u → ∃ i x j, l[i]? = some x ∧ (f x)[j]? = some u ∧ m = i * k + j
 | [], _, m, u, h => by simp at h
 | y :: l, hk, m, u, h => by
  have hy := hk y (by simp)
  rw [List.flatMap_cons] at h
  by_cases hm : m < k
  ·rw [List.getElem?_append_left (by omega)] at h
   exact ⟨0, y, m, rfl, h, by omega⟩
  ·rw [List.getElem?_append_right (by omega), hy] at h
   obtain ⟨i, x, j, h1, h2, h3⟩ := rows_of l (fun z hz => hk z (List.mem_cons_of_mem _ hz)) _ u h
   exact ⟨i + 1, x, j, by simpa using h1, h2, by rw [Nat.add_one_mul]; omega⟩
theorem rows_len : ∀ (l : List α), (∀ x ∈ l, (f x).length = k) → (l.flatMap f).length = l.length * k
 | [], _ => by simp
 | y :: l, hk => by
  rw [List.flatMap_cons, List.length_append, rows_len l (fun z hz => hk z (List.mem_cons_of_mem _ hz)), hk y (by simp), List.length_cons, Nat.add_one_mul]
  omega
theorem Rws.ofOwn {base t n : Nat} (h : w.ownsRow base t k v n (l.flatMap f)) (hl : l.length = n) (hk : ∀ x ∈ l, (f x).length = k) (hF : ∀ b, v.ownBlock = some b → base ≤ b → b < w.heap.size → F b) : Rws k f w F v l := by
 subst hl
 rcases h.2 with ⟨hv, h0⟩ | ⟨g, cap, cur, hv, hb, hg, hc, hm, hs, ht⟩
 ·rw [hv]
  have : l = [] := List.eq_nil_of_length_eq_zero h0
  rw [this]
  exact Rws.none _ _ _
 ·refine ⟨some ⟨g, 0, Option.none⟩, cap, hv, hc, fun _ => ⟨g, 0, rfl, hF g (by rw [hv]; rfl) hb (lt_of_block hg), lt_of_block hg, fun i x hx j u hu => ?_⟩⟩
  have hr := rows_at l hk i x hx j u hu
  rw [cell_of_row w g _ cur t (0, 0) hg, Nat.zero_add]
  rw [← ht, List.getElem?_take] at hr
  split at hr
  ·rw [Array.getElem?_toList] at hr; exact hr
  ·cases hr
theorem Rws.take (h : Rws k f w F v l) {A : Option Addr} {cap : Nat} (hv : v = .slice A l.length cap) (i : Nat) (hi : i ≤ l.length) (c : Nat) (hc : i ≤ c) : Rws k f w F (.slice A i c) (l.take i) := by
 obtain ⟨B, cap', h1, h2, h3⟩ := h
 rw [h1] at hv
 injection hv with e1 e2 e3
 subst e1
 have hl : (l.take i).length = i := by rw [List.length_take]; omega
 refine ⟨B, c, by rw [hl], by rw [hl]; exact hc, fun hp => ?_⟩
 rw [hl] at hp
 obtain ⟨b, o, e, hb, hlt, hcl⟩ := h3 (by omega)
 exact ⟨b, o, e, hb, hlt, fun m x hx => hcl m x (by rw [List.getElem?_take] at hx; split at hx; exact hx; cases hx)⟩
theorem Rws.drop (h : Rws k f w F v l) {b o cap : Nat} (hv : v = .slice (some ⟨b, o, Option.none⟩) l.length cap) (i : Nat) (hi : i ≤ l.length) (c : Nat) (hc : l.length - i ≤ c) : Rws k f w F (.slice (some ⟨b, o + i * k, Option.none⟩) (l.length - i) c) (l.drop i) := by
 obtain ⟨B, cap', h1, h2, h3⟩ := h
 rw [h1] at hv
 injection hv with e1 e2 e3
 subst e1
 have hl : (l.drop i).length = l.length - i := List.length_drop
 refine ⟨_, c, by rw [hl], by rw [hl]; exact hc, fun hp => ?_⟩
 rw [hl] at hp
 obtain ⟨b', o', e, hb, hlt, hcl⟩ := h3 (by omega)
 injection e with e
 injection e with e1 e2
 subst e1 e2
 refine ⟨b, o + i * k, rfl, hb, hlt, fun m x hx j u hu => ?_⟩
 rw [List.getElem?_drop] at hx
 have := hcl (i + m) x hx j u hu
 rw [show o + (i + m) * k + j = o + i * k + m * k + j by rw [Nat.add_mul]; omega] at this
 exact this
end
section
variable {P : Program} {α : Type} {k : Nat} {f : α → List Value}
theorem join_nothing {w : World} (base : Nat) (t ty e : TypeId) (i : TypeInfo) (size c : Nat) (ht : P.underlying t = some (.slice e)) (hi : P.info? e = some i) (v : Value) (n : Nat) (xs : List Value) (hown : w.ownsRow base e size v n xs) :
  (Builtin.append_ #[t, t] ty #[v, .slice none 0 c]).run P w = .ok v w := by
 rcases hown.2 with ⟨rfl, rfl⟩ | ⟨g, cap, cur, rfl, _, _, hnc, _⟩
 ·simp [Builtin.append_, run_underlying ht, sizeOf, typeInfo, hi, Builtin.lenOf, Builtin.firstCells]
 ·simp [Builtin.append_, run_underlying ht, sizeOf, typeInfo, hi, Builtin.lenOf, Builtin.firstCells, hnc, storeCells]
theorem join_rows {w : World} (base : Nat) (t ty e : TypeId) (i : TypeInfo) (z : Value) (bytes : Nat) (ht : P.underlying t = some (.slice e)) (hi : P.info? e = some i) (hz : i.zero = some z) (hsize : i.size = k) (hby : i.bytes = bytes) (hzs : z.cells.size = k) (hsz : 0 < k)
  {v xv : Value} {n : Nat} {xs : List Value} {F : Nat → Prop} {l : List α} (hown : w.ownsRow base e k v n xs) (hx : Rws k f w F xv l) (hk : ∀ x ∈ l, (f x).length = k) (h1 : ∀ x ∈ l, ∀ u ∈ f x, u.oneCell' = true)
  (h63 : n + l.length ≤ maxLen) (hbytes : (n + l.length) * bytes ≤ 140737488355328) (hbase : base ≤ w.heap.size) :
  ∃ v' w', (Builtin.append_ #[t, t] ty #[v, xv]).run P w = .ok v' w' ∧ w'.ownsRow base e k v' (n + l.length) (xs ++ l.flatMap f) ∧ w.grownBy w' v.ownBlock := by
 obtain ⟨A, c, rfl, hc, hat⟩ := hx
 have hone : ∀ u ∈ l.flatMap f, u.oneCell' = true := by
  intro u hu
  obtain ⟨x, hx, hu⟩ := List.mem_flatMap.1 hu
  exact h1 x hx u hu
 have hgo : ∀ ad : Addr, A = some ad → (∀ j u, (l.flatMap f)[j]? = some u → w.cell? (ad.add j) = some u) → ∃ v' w', (Builtin.append_ #[t, t] ty #[v, .slice A l.length c]).run P w = .ok v' w' ∧ w'.ownsRow base e k v' (n + l.length) (xs ++ l.flatMap f) ∧ w.grownBy w' v.ownBlock := by
  rintro ad rfl hnews
  obtain ⟨v', w', r1, r2, r3, -⟩ := run_append_own w base t ty e i z k bytes ht hi hz hsize hby hzs hsz v n xs hown ad l.length c (l.flatMap f) (rows_len l hk) hnews hone h63 hbytes hbase
  exact ⟨v', w', r1, r2, r3⟩
 by_cases h0 : 0 < l.length
 ·obtain ⟨b, o, rfl, -, hbl, hcell⟩ := hat h0
  refine hgo _ rfl (fun j u hu => ?_)
  obtain ⟨m, x, r, e1, e2, rfl⟩ := rows_of l hk j u hu
  rw [Go.WideShapes.add_plain, ← Nat.add_assoc]
  exact hcell m x e1 r u e2
 ·have hl : l = [] := List.eq_nil_of_length_eq_zero (by omega)
  subst hl
  cases A with
  | none => exact ⟨v, w, join_nothing base t ty e i k c ht hi v n xs hown, by simpa using hown, rfl, rfl, rfl, Nat.le_refl _, fun _ _ _ => rfl⟩
  | some ad => exact hgo ad rfl (fun j u hu => by simp at hu)
end
open Go.RowKit
def mk (l : List UInt8) : ByteArray := ⟨l.toArray⟩
theorem mk_data (l : List UInt8) : (mk l).data.toList = l := rfl
theorem mk_len (l : List UInt8) : (mk l).size = l.length := by rw [Lib.size_eq]; rfl
theorem mk_of (s : ByteArray) : mk s.data.toList = s := bytes_ext rfl
theorem mk_append (a b : List UInt8) : mk a ++ mk b = mk (a ++ b) := bytes_ext (by rw [ByteArray.data_append, Array.toList_append]; rfl)
def texts (l : List (List UInt8)) : List Value := l.map fun t => Value.string (mk t)
theorem texts_len (l : List (List UInt8)) : (texts l).length = l.length := List.length_map _
theorem texts_at {l : List (List UInt8)} {i : Nat} {t : List UInt8} (h : l[i]? = some t) : (texts l)[i]? = some (.string (mk t)) := by
 unfold texts
 rw [List.getElem?_map, h]; rfl
def NewIn (w w' : World) (k : Nat) : Prop := w.heap.size ≤ k ∧ k < w'.heap.size
open Go.RowKit
def flT (s : List UInt8) : Fl := ⟨0, mk s, true⟩
def flN (n : Int) : Fl := ⟨n, ⟨#[]⟩, false⟩
def fl3 (f : Fl) : List Value := [.int .i64 f.num, .string f.txt, .bool f.isT]
theorem fl3_len (f : Fl) : (fl3 f).length = 3 := rfl
theorem fl3_one (f : Fl) : ∀ u ∈ fl3 f, u.oneCell' = true := by
 intro u hu
 unfold fl3 at hu
 simp only [List.mem_cons, List.not_mem_nil, or_false] at hu
 rcases hu with rfl | rfl | rfl <;> rfl
theorem flT_bytes (s : List UInt8) : (flT s).bytes = Leb.enc s.length ++ s := by
 unfold Fl.bytes Fl.head Fl.body flT numOf strOf
 simp only [if_true, mk_data, mk_len, Int.toNat_natCast]
theorem fieldInfo : (Try.prog.info? 120).map (fun i => (i.zero, i.size, i.bytes)) = some (some (.agg #[.int .i64 0, .string ⟨#[]⟩, .bool false]), 3, 32) := by kernel_rfl
theorem Rws.made {α : Type} {k : Nat} {f : α → List Value} (w : World) (t : TypeId) (l : List α) (hk : ∀ x ∈ l, (f x).length = k) :
  Rws k f (w.alloc (.cells (l.flatMap f).toArray t)) (fun i => i = w.heap.size) (.slice (some ⟨w.heap.size, 0, Option.none⟩) l.length l.length) l := by
 refine ⟨_, _, rfl, Nat.le_refl _, fun _ => ⟨w.heap.size, 0, rfl, rfl, by simp, fun i x hx j u hu => ?_⟩⟩
 have hr := rows_at l hk i x hx j u hu
 rw [(Row.made w _ _).at, Nat.zero_add]
 simpa using hr
theorem fields_at {w : World} {F : Nat → Prop} {b cap : Nat} {fs : List Fl} (h : Rws 3 fl3 w F (.slice (some ⟨b, 0, none⟩) fs.length cap) fs) (h0 : 0 < fs.length) : FieldsAt w b 0 fs := by
 intro i f hf
 obtain ⟨A, c, e, -, hat⟩ := h
 injection e with e1 e2 e3
 obtain ⟨b', o', e, -, -, hc⟩ := hat h0
 rw [e] at e1
 injection e1 with e1
 injection e1 with e1 e2
 subst e1 e2
 exact ⟨hc i f hf 0 _ rfl, hc i f hf 1 _ rfl, hc i f hf 2 _ rfl⟩
theorem gb_kept {F : Nat → Prop} {a w w' : World} {r : Option Nat} (h : a.grownBy w r) (k : Kept F w w') (hF : ∀ i, F i → a.heap.size ≤ i) : a.grownBy w' r :=
 ⟨k.os.trans h.os, k.tape.trans h.tape, k.output.trans h.output, Nat.le_trans h.size k.size, fun i hi hn => (k.block i (Nat.lt_of_lt_of_le hi h.size) (fun hf => by have := hF i hf; omega)).trans (h.block i hi hn)⟩
end Go.Proofs.Ytkacfmaogiblfaa
namespace Go.Proofs.Ytkacfmaogiblfaa.Ver
structure V where
 by_ : Int
 n : Int
deriving DecidableEq
structure S where
 time : Int
 v : V
deriving DecidableEq
def Right (v : V) : Prop := 1 ≤ v.by_ ∧ v.by_ ≤ 64 ∧ 1 ≤ v.n
def RightS (s : S) : Prop := Right s.v ∧ 1 ≤ s.time
def Before (a b : V) : Prop := a.by_ < b.by_ ∨ (a.by_ = b.by_ ∧ a.n < b.n)
def Older (a b : S) : Prop := a.time < b.time ∨ (a.time = b.time ∧ Before a.v b.v)
instance (v : V) : Decidable (Right v) := inferInstanceAs (Decidable (_ ∧ _))
instance (s : S) : Decidable (RightS s) := inferInstanceAs (Decidable (_ ∧ _))
instance (a b : V) : Decidable (Before a b) := inferInstanceAs (Decidable (_ ∨ _))
instance (a b : S) : Decidable (Older a b) := inferInstanceAs (Decidable (_ ∨ _))
theorem v_ext {a b : V} (h : a.by_ = b.by_) (k : a.n = b.n) : a = b := by cases a; cases b; simp_all
theorem before_irrefl (a : V) : ¬ Before a a := by unfold Before; omega
theorem before_trans {a b c : V} (h : Before a b) (k : Before b c) : Before a c := by unfold Before at *; omega
theorem before_or {a b : V} (h : a ≠ b) : Before a b ∨ Before b a := by
 by_cases h1 : a.by_ = b.by_
 ·by_cases h2 : a.n = b.n
  ·exact absurd (v_ext h1 h2) h
  ·unfold Before; omega
 ·unfold Before; omega
theorem before_asymm {a b : V} (h : Before a b) : ¬ Before b a := fun k => before_irrefl a (before_trans h k)
def Up (l : List V) : Prop := l.Pairwise Before
def put (l : List V) (v : V) : List V := if (l.dropWhile fun x => decide (Before x v)).head? = some v then l else l.takeWhile (fun x => decide (Before x v)) ++ v :: l.dropWhile fun x => decide (Before x v)
def sort (l : List V) : List V := l.foldl put []
theorem up_same : ∀ {l m : List V}, Up l → Up m → (∀ x, x ∈ l ↔ x ∈ m) → l = m
 | [], [], _, _, _ => rfl
 | [], b :: m, _, _, h => by have := (h b).2 (by simp); cases this
 | a :: l, [], _, _, h => by have := (h a).1 (by simp); cases this
 | a :: l, b :: m, hl, hm, h => by
  have h1 := List.pairwise_cons.1 hl
  have h2 := List.pairwise_cons.1 hm
  have e : a = b := by
   refine Classical.byContradiction (fun e => ?_)
   have ha : a ∈ m := ((List.mem_cons.1 ((h a).1 (by simp))).resolve_left e)
   have hb : b ∈ l := ((List.mem_cons.1 ((h b).2 (by simp))).resolve_left (fun k => e k.symm))
   exact before_asymm (h1.1 b hb) (h2.1 a ha)
  subst e
  rw [up_same h1.2 h2.2 (fun x => ?_)]
  have hx := h x
  constructor
  ·intro hm'
   rcases List.mem_cons.1 (hx.1 (List.mem_cons_of_mem _ hm')) with rfl | k
   ·exact absurd (h1.1 x hm') (before_irrefl x)
   ·exact k
  ·intro hm'
   rcases List.mem_cons.1 (hx.2 (List.mem_cons_of_mem _ hm')) with rfl | k
   ·exact absurd (h2.1 x hm') (before_irrefl x)
   ·exact k
theorem put_mem {l : List V} {v x : V} : x ∈ put l v ↔ x = v ∨ x ∈ l := by
 have e : l.takeWhile (fun x => decide (Before x v)) ++ l.dropWhile (fun x => decide (Before x v)) = l := List.takeWhile_append_dropWhile
 unfold put
 split
 ·rename_i h
  have hp : v ∈ l := by
   rw [← e]
   exact List.mem_append.2 (Or.inr (List.mem_of_mem_head? (by rw [h]; rfl)))
  constructor
  ·exact Or.inr
  ·rintro (rfl | h)
   ·exact hp
   ·exact h
 ·rw [List.mem_append, List.mem_cons]
  constructor
  ·rintro (h | h | h)
   ·exact Or.inr (by rw [← e]; exact List.mem_append.2 (Or.inl h))
   ·exact Or.inl h
   ·exact Or.inr (by rw [← e]; exact List.mem_append.2 (Or.inr h))
  ·rintro (h | h)
   ·exact Or.inr (Or.inl h)
   ·rw [← e] at h
    rcases List.mem_append.1 h with h | h
    ·exact Or.inl h
    ·exact Or.inr (Or.inr h)
theorem take_lt {l : List V} {v : V} : ∀ x ∈ l.takeWhile (fun x => decide (Before x v)), Before x v := by
 intro x hx
 induction l with
 | nil => cases hx
 | cons a l ih =>
  rw [List.takeWhile_cons] at hx
  by_cases ha : Before a v
  ·rw [if_pos (decide_eq_true ha)] at hx
   rcases List.mem_cons.1 hx with rfl | hx
   ·exact ha
   ·exact ih hx
  ·rw [if_neg (by simpa using ha)] at hx; cases hx
theorem drop_ge {l : List V} (h : Up l) {v : V} : ∀ x ∈ l.dropWhile (fun x => decide (Before x v)), ¬ Before x v := by
 intro x hx
 induction l with
 | nil => cases hx
 | cons a l ih =>
  have h1 := List.pairwise_cons.1 h
  rw [List.dropWhile_cons] at hx
  by_cases ha : Before a v
  ·rw [if_pos (decide_eq_true ha)] at hx
   exact ih h1.2 hx
  ·rw [if_neg (by simpa using ha)] at hx
   rcases List.mem_cons.1 hx with rfl | hx
   ·exact ha
   ·exact fun k => ha (before_trans (h1.1 x hx) k)
theorem put_up {l : List V} (h : Up l) (v : V) : Up (put l v) := by
 have e : l.takeWhile (fun x => decide (Before x v)) ++ l.dropWhile (fun x => decide (Before x v)) = l := List.takeWhile_append_dropWhile
 unfold put
 split
 ·exact h
 ·rename_i hne
  have h0 : Up (l.takeWhile (fun x => decide (Before x v)) ++ l.dropWhile (fun x => decide (Before x v))) := by rw [e]; exact h
  obtain ⟨h1, h2, h3⟩ := List.pairwise_append.1 h0
  have hgt : ∀ x ∈ l.dropWhile (fun x => decide (Before x v)), Before v x := by
   intro x hx
   have hn := drop_ge h x hx
   by_cases ex : x = v
   ·exfalso
    subst ex
    cases hd : l.dropWhile (fun y => decide (Before y x)) with
    | nil => rw [hd] at hx; cases hx
    | cons a t =>
     rw [hd] at hne hx h2
     have hax : a ≠ x := fun k => hne (by rw [k]; rfl)
     have ht : x ∈ t := (List.mem_cons.1 hx).resolve_left (fun k => hax k.symm)
     exact drop_ge h a (by rw [hd]; simp) ((List.pairwise_cons.1 h2).1 x ht)
   ·exact (before_or ex).resolve_left hn
  refine List.pairwise_append.2 ⟨h1, List.pairwise_cons.2 ⟨hgt, h2⟩, fun x hx y hy => ?_⟩
  rcases List.mem_cons.1 hy with rfl | hy
  ·exact take_lt x hx
  ·exact before_trans (take_lt x hx) (hgt y hy)
theorem sort_aux (l : List V) : ∀ out : List V, Up out → Up (l.foldl put out) ∧ ∀ x, x ∈ l.foldl put out ↔ x ∈ out ∨ x ∈ l := by
 induction l with
 | nil => intro out h; exact ⟨h, fun x => by simp⟩
 | cons a l ih =>
  intro out h
  obtain ⟨h1, h2⟩ := ih (put out a) (put_up h a)
  refine ⟨h1, fun x => ?_⟩
  rw [List.foldl_cons, h2 x, put_mem, List.mem_cons]
  constructor
  ·rintro ((h | h) | h)
   ·exact Or.inr (Or.inl h)
   ·exact Or.inl h
   ·exact Or.inr (Or.inr h)
  ·rintro (h | h | h)
   ·exact Or.inl (Or.inr h)
   ·exact Or.inl (Or.inl h)
   ·exact Or.inr h
theorem sort_up (l : List V) : Up (sort l) := (sort_aux l [] List.Pairwise.nil).1
theorem sort_mem (l : List V) (x : V) : x ∈ sort l ↔ x ∈ l := by
 have := (sort_aux l [] List.Pairwise.nil).2 x
 unfold sort
 rw [this]
 simp
theorem sort_is {l m : List V} (h : Up m) (hm : ∀ x, x ∈ m ↔ x ∈ l) : sort l = m := up_same (sort_up l) h (fun x => (sort_mem l x).trans (hm x).symm)
def most (time : Int) (l : List Int) : Int := l.foldl max (max time 0)
end Go.Proofs.Ytkacfmaogiblfaa.Ver
