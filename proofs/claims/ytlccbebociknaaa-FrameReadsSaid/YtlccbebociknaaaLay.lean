/- Lay: the bytes of any fields, or why they may not be laid. -/
import Derived.Test.YtlccbebociknaaaLayB
import Derived.Lib.BufferRead
namespace Go.Proofs.Ytlccbebociknaaa
open Go.RowKit

/-- A field: its number, its text, whether it is a text. -/
structure Fl where
  num : Int
  txt : ByteArray
  isT : Bool

/-- The number that a field begins with; the bytes behind it. -/
def Fl.head (f : Fl) : Int := numOf f.num f.txt f.isT
def Fl.body (f : Fl) : ByteArray := strOf f.txt f.isT
def Fl.bytes (f : Fl) : List UInt8 := Leb.enc f.head.toNat ++ f.body.data.toList
def allBytes (fs : List Fl) : List UInt8 := fs.flatMap Fl.bytes

/-- The fields lie in memory, one behind the other. -/
def FieldsAt (w : World) (b off : Nat) (fs : List Fl) : Prop := ∀ i f, fs[i]? = some f →
  w.cell? ⟨b, off + i * 3, none⟩ = some (.int .i64 f.num) ∧ w.cell? ⟨b, off + i * 3 + 1, none⟩ = some (.string f.txt) ∧ w.cell? ⟨b, off + i * 3 + 2, none⟩ = some (.bool f.isT)

theorem FieldsAt.below {w w' : World} {b off B : Nat} {fs : List Fl} (h : FieldsAt w b off fs) (hb : Below B w w') (hB : b < B) : FieldsAt w' b off fs := fun i f hf => by
  obtain ⟨h1, h2, h3⟩ := h i f hf
  exact ⟨(hb.cell (p := ⟨b, _, none⟩) hB).trans h1, (hb.cell (p := ⟨b, _, none⟩) hB).trans h2, (hb.cell (p := ⟨b, _, none⟩) hB).trans h3⟩

/-- What Lay answers: the bytes, and the error's number. -/
def layOf (fs : List Fl) : List UInt8 × Int :=
  if fs.any (fun f => decide (f.head < 0)) then ([], 3) else if 65536 < (allBytes fs).length then ([], 4) else (allBytes fs, 0)

/-- Numbers and texts as a program can hold them. -/
def Fits (fs : List Fl) : Prop := ∀ (i : Nat) (f : Fl), fs[i]? = some f → f.head < 9223372036854775808 ∧ f.body.size ≤ 9223372036854775807

theorem parts_fl (f : Fl) (w : World) :
    Calls Try.prog 39 #[.agg #[.int .i64 f.num, .string f.txt, .bool f.isT]] w fun e w' => e = .returned (.tuple #[.int .i64 f.head, .string f.body]) ∧ Below w.heap.size w w' :=
  parts_any f.num f.txt f.isT w

theorem layer_any (d : Nat) (w : World) :
    Calls Try.prog 40 #[.pointer (some ⟨d, 0, none⟩)] w fun e w' =>
      e = .returned (.func (.func 47) #[] #[.pointer (some ⟨w.heap.size, 0, none⟩)]) ∧ w.alloc (.cells #[.pointer (some ⟨d, 0, none⟩)] 43) = w' := by
  go_enter Try.func40, Try.ntmps40
  go_wp2
  go_ret
  exact ⟨rfl, rfl⟩

/-- What is owned, as a text. -/
theorem run_text {w : World} {base : Nat} {v : Value} {l : List UInt8} (h : w.ownsRow base 5 1 v l.length (Lib.byteCells l)) :
    (convert 38 9 v).run Try.prog w = .ok (.string ⟨l.toArray⟩) w := by
  rcases h.2 with ⟨hv, h0⟩ | ⟨g, cap, cur, hv, _⟩
  · have : l = [] := List.eq_nil_of_length_eq_zero h0
    subst this
    rw [hv]
    exact Lib.run_convert_nil_bytes (P := Try.prog) w 38 9 5 0 Try.underlying38 Try.underlying5 Try.underlying9
  · have hcells := h.cells (g := g) (by rw [hv]; rfl)
    rw [hv]
    refine run_convert_bytes_back (P := Try.prog) w 38 9 5 ⟨g, 0, none⟩ cap l Try.underlying38 Try.underlying5 Try.underlying9 (fun j hj => hcells j _ ?_)
    simp [Lib.byteCells, hj]

theorem allBytes_snoc (fs : List Fl) (k : Nat) (f : Fl) (hf : fs[k]? = some f) : allBytes (fs.take (k + 1)) = allBytes (fs.take k) ++ Leb.enc f.head.toNat ++ f.body.data.toList := by
  obtain ⟨hl, he⟩ := List.getElem?_eq_some_iff.1 hf
  rw [List.take_succ_eq_append_getElem hl, he]
  simp [allBytes, Fl.bytes, List.append_assoc]

theorem allBytes_le (fs : List Fl) (k : Nat) : (allBytes (fs.take k)).length ≤ (allBytes fs).length := by
  have : allBytes fs = allBytes (fs.take k) ++ allBytes (fs.drop k) := by
    unfold allBytes
    rw [← List.flatMap_append, List.take_append_drop]
  rw [this, List.length_append]
  omega

def LayPost (w : World) (fs : List Fl) (e : Ending) (w' : World) : Prop :=
  e = .returned (.tuple #[.string ⟨(layOf fs).1.toArray⟩, .int .i64 (layOf fs).2]) ∧ Below w.heap.size w w'

/-- A negative number is told first. -/
def Fine (fs : List Fl) (k : Nat) : Prop := ∀ j f, fs[j]? = some f → j < k → 0 ≤ f.head

theorem fine_all {fs : List Fl} (h : Fine fs fs.length) : fs.any (fun f => decide (f.head < 0)) = false := by
  rw [List.any_eq_false]
  intro f hf
  obtain ⟨i, hi, he⟩ := List.mem_iff_getElem.1 hf
  have := h i f (by rw [List.getElem?_eq_getElem hi, he]) hi
  simp; omega

/-- At the head of a round of the second loop. -/
def LayRel (w : World) (base c d : Nat) (fs : List Fl) (k : Nat) (wr : World) : Prop :=
  Below base w wr ∧ Laid wr base c d (allBytes (fs.take k)) ∧ (allBytes (fs.take k)).length ≤ 65536

theorem LayRel.new {w wr : World} {base c d k : Nat} {fs : List Fl} (h : LayRel w base c d fs k wr) (hB : base ≤ w.heap.size) (o : Obj) : LayRel w base c d fs k (wr.alloc o) :=
  ⟨h.1.alloc (Nat.le_trans hB h.1.size) o, h.2.1.below ((Below.refl _ _).alloc (Nat.le_refl _) o), h.2.2⟩

theorem layer_yes {w W : World} {base c d k : Nat} {fs : List Fl} {f : Fl} (h : LayRel w base c d fs k W) (hd : base ≤ d) (hB : base ≤ w.heap.size) (hf : fs[k]? = some f) (hfit : Fits fs) (hpos : 0 ≤ f.head)
    (hle : (allBytes (fs.take (k + 1))).length ≤ 65536) :
    Calls Try.prog 47 #[.agg #[.int .i64 f.num, .string f.txt, .bool f.isT], .pointer (some ⟨c, 0, none⟩)] W fun e w' => e = .returned (.bool true) ∧ LayRel w base c d fs (k + 1) w' := by
  obtain ⟨h1, h2, h3⟩ := h
  have hs := allBytes_snoc fs k f hf
  have hlen : (allBytes (fs.take (k + 1))).length = (allBytes (fs.take k)).length + (Leb.enc f.head.toNat).length + f.body.size := by
    rw [hs, List.length_append, List.length_append, ← Lib.size_eq]
  refine (layer_field f.num f.txt f.isT h2 hd (Nat.le_trans hB h1.size) h3 hpos (hfit k f hf).1 (hfit k f hf).2).mono ?_
  rintro e w' ⟨k1, k2⟩
  have k2' : if 65536 - ((allBytes (fs.take k)).length : Int) < f.body.size then e = .returned (.bool false) else
    e = .returned (.bool (decide (((allBytes (fs.take k)).length : Int) + ((Leb.enc f.head.toNat).length : Int) + (f.body.size : Int) ≤ 65536))) ∧ Laid w' base c d (allBytes (fs.take k) ++ Leb.enc f.head.toNat ++ f.body.data.toList) := k2
  rw [if_neg (by omega)] at k2'
  obtain ⟨k3, k4⟩ := k2'
  refine ⟨?_, h1.trans k1, by rw [hs]; exact k4, hle⟩
  rw [k3, decide_eq_true (by omega)]

theorem layer_no {w W : World} {base c d k : Nat} {fs : List Fl} {f : Fl} (h : LayRel w base c d fs k W) (hd : base ≤ d) (hB : base ≤ w.heap.size) (hf : fs[k]? = some f) (hfit : Fits fs) (hpos : 0 ≤ f.head)
    (hle : 65536 < (allBytes (fs.take (k + 1))).length) :
    Calls Try.prog 47 #[.agg #[.int .i64 f.num, .string f.txt, .bool f.isT], .pointer (some ⟨c, 0, none⟩)] W fun e w' => e = .returned (.bool false) ∧ Below base w w' := by
  obtain ⟨h1, h2, h3⟩ := h
  have hs := allBytes_snoc fs k f hf
  have hlen : (allBytes (fs.take (k + 1))).length = (allBytes (fs.take k)).length + (Leb.enc f.head.toNat).length + f.body.size := by
    rw [hs, List.length_append, List.length_append, ← Lib.size_eq]
  refine (layer_field f.num f.txt f.isT h2 hd (Nat.le_trans hB h1.size) h3 hpos (hfit k f hf).1 (hfit k f hf).2).mono ?_
  rintro e w' ⟨k1, k2⟩
  have k2' : if 65536 - ((allBytes (fs.take k)).length : Int) < f.body.size then e = .returned (.bool false) else
    e = .returned (.bool (decide (((allBytes (fs.take k)).length : Int) + ((Leb.enc f.head.toNat).length : Int) + (f.body.size : Int) ≤ 65536))) ∧ Laid w' base c d (allBytes (fs.take k) ++ Leb.enc f.head.toNat ++ f.body.data.toList) := k2
  refine ⟨?_, h1.trans k1⟩
  split at k2'
  · exact k2'
  · rw [k2'.1, decide_eq_false (by omega)]

set_option maxRecDepth 100000 in
set_option maxHeartbeats 3200000 in
theorem lay_any {w : World} {b off cap : Nat} {fs : List Fl} (h : FieldsAt w b off fs) (hb : b < w.heap.size) (hlen : fs.length ≤ 1000) (hfit : Fits fs) :
    Calls Try.prog 29 #[.slice (some ⟨b, off, none⟩) fs.length cap] w (LayPost w fs) := by
  have Hf := Lib.hid h
  have Hfit := Lib.hid hfit
  have hlen' : (fs.length : Int) ≤ 1000 := by omega
  clear h hlen hfit
  go_enter Try.func29, Try.ntmps29
  go_wp2
  go_loopw [14] (fun i wr => ∃ k : Nat, k ≤ fs.length ∧ i = .int .i64 k ∧ Below w.heap.size w wr ∧ Fine fs k) (fun i _ => fs.length - (intOf i).toNat)
  case atStart => exact ⟨0, Nat.zero_le _, rfl, Below.refl _ _, fun j f _ hj => absurd hj (by omega)⟩
  case round =>
    obtain ⟨k, hk, rfl, hbel, hfine⟩ := hrel
    by_cases hlt : k < fs.length
    · obtain ⟨f, hf⟩ : ∃ f, fs[k]? = some f := ⟨fs[k], List.getElem?_eq_getElem hlt⟩
      obtain ⟨c0, c1, c2⟩ := (Hf.out.below hbel hb) k f hf
      have HF := Lib.hid hf
      clear hf
      have hbn : Below w.heap.size w (wr.alloc (.cells #[.int .i64 f.num, .string f.txt, .bool f.isT] 54)) := hbel.alloc hbel.size _
      have Hbn := Lib.hid hbn
      clear hbn
      by_cases hneg : f.head < 0
      · have hfin : Hid (layOf fs = ([], 3)) := by
          unfold layOf
          rw [if_pos]
          · rfl
          · exact List.any_eq_true.2 ⟨f, List.mem_of_getElem? HF.out, by simpa using hneg⟩
        go_wp2_with (go_at_call 39; refine (parts_fl f _).mono ?_; rintro e w1 ⟨rfl, hb1⟩)
        go_ret2
        exact ⟨by rw [hfin.out]; rfl, Hbn.out.trans (hb1.mono Hbn.out.size)⟩
      · have hpos : 0 ≤ f.head := by omega
        have hfine' : Fine fs (k + 1) := by
          intro j g hg hj
          by_cases hjk : j = k
          · subst hjk
            rw [HF.out] at hg
            injection hg with hg
            rw [← hg]; exact hpos
          · exact hfine j g hg (by omega)
        clear hneg hfine
        go_wp2_with (go_at_call 39; refine (parts_fl f _).mono ?_; rintro e w1 ⟨rfl, hb1⟩)
        go_roundw
        case rel => exact ⟨k + 1, by omega, by go_num, Hbn.out.trans (hb1.mono Hbn.out.size), hfine'⟩
        case measure => simp [intOf]; omega
    · obtain rfl : k = fs.length := by omega
      obtain ⟨wo, rfl⟩ : ∃ wo : World, wo = wr := ⟨_, rfl⟩
      have hfine2 := fine_all hfine
      have Hfine2 := Lib.hid hfine2
      have Hfine := Lib.hid hfine
      clear hfine hfine2
      have hsz := hbel.size
      -- what the second loop begins with
      have hstart : LayRel w w.heap.size (wo.heap.size + 1) wo.heap.size fs 0 ((wo.alloc (.cells #[.slice none 0 0] 38)).alloc (.cells #[.pointer (some ⟨wo.heap.size, 0, none⟩)] 43)) := by
        refine ⟨(hbel.alloc hbel.size _).alloc (by simp; omega) _, ⟨?_, .slice none 0 0, (Row.made wo _ _).behindNew _, ?_⟩, by simp [allBytes]⟩
        · have := Row.made (wo.alloc (.cells #[.slice none 0 0] 38)) 43 #[.pointer (some ⟨wo.heap.size, 0, none⟩)]
          simpa using this
        · simpa [allBytes, Lib.byteCells] using World.ownsRow_nil _ _ _ _
      have Hstart := Lib.hid hstart
      clear hstart
      go_wp2_with (go_at_call 40; refine (layer_any _ _).mono ?_; rintro e w1 ⟨rfl, rfl⟩)
      go_loopw [29] (fun i wx => ∃ j : Nat, j ≤ fs.length ∧ i = .int .i64 j ∧ LayRel w w.heap.size (wo.heap.size + 1) wo.heap.size fs j wx) (fun i _ => fs.length - (intOf i).toNat)
      case atStart => exact ⟨0, Nat.zero_le _, rfl, Hstart.out⟩
      case round =>
        obtain ⟨j, hj, rfl, hrel2⟩ := hrel
        by_cases hlt2 : j < fs.length
        · obtain ⟨f, hf⟩ : ∃ f, fs[j]? = some f := ⟨fs[j], List.getElem?_eq_getElem hlt2⟩
          have hpos : 0 ≤ f.head := Hfine.out j f hf hlt2
          obtain ⟨c0, c1, c2⟩ := (Hf.out.below hrel2.1 hb) j f hf
          have HF := Lib.hid hf
          clear hf
          have Hrel := Lib.hid (hrel2.new (Nat.le_refl _) (.cells #[.int .i64 f.num, .string f.txt, .bool f.isT] 54))
          by_cases hle : (allBytes (fs.take (j + 1))).length ≤ 65536
          · have Hle := Lib.hid hle
            clear hle hrel2
            go_wp2_with (go_at_call 47; refine (layer_yes Hrel.out hsz (Nat.le_refl _) HF.out Hfit.out hpos Hle.out).mono ?_; rintro e w1 ⟨rfl, hr1⟩)
            go_roundw
            case rel => exact ⟨j + 1, by omega, by go_num, hr1⟩
            case measure => simp [intOf]; omega
          · have Hle := Lib.hid (show 65536 < (allBytes (fs.take (j + 1))).length by omega)
            clear hle hrel2
            have hfin : Hid (layOf fs = ([], 4)) := by
              have := allBytes_le fs (j + 1)
              have := Hle.out
              unfold layOf
              rw [if_neg (by rw [Hfine2.out]; simp), if_pos (by omega)]
              rfl
            go_wp2_with (go_at_call 47; refine (layer_no Hrel.out hsz (Nat.le_refl _) HF.out Hfit.out hpos Hle.out).mono ?_; rintro e w1 ⟨rfl, hr1⟩)
            go_ret2
            exact ⟨by rw [hfin.out]; rfl, hr1⟩
        · obtain rfl : j = fs.length := by omega
          obtain ⟨hb2, ⟨_, v, r2, own⟩, hle⟩ := hrel2
          have htext := run_text own
          have cd : wr.cell? ⟨wo.heap.size, 0, none⟩ = some v := r2.at 0
          have hfin : Hid (layOf fs = (allBytes fs, 0)) := by
            rw [List.take_length] at hle
            unfold layOf
            rw [if_neg (by rw [Hfine2.out]; simp), if_neg (by omega)]
            rfl
          clear own r2 hle
          go_wp2
          go_ret2
          exact ⟨by rw [hfin.out]; rfl, hb2⟩

set_option maxRecDepth 100000 in
/-- Of no field nothing is laid, whatever the slice's address. -/
theorem lay_empty (A : Option Addr) (cap : Nat) (w : World) :
    Calls Try.prog 29 #[.slice A 0 cap] w (LayPost w []) := by
  have hnil := Lib.run_convert_nil_bytes (P := Try.prog) ((w.alloc (.cells #[.slice none 0 0] 38)).alloc (.cells #[.pointer (some ⟨w.heap.size, 0, none⟩)] 43)) 38 9 5 0 Try.underlying38 Try.underlying5 Try.underlying9
  go_enter Try.func29, Try.ntmps29
  go_wp2
  refine wp_loop_rounds 1 ?_
  rw [rounds_succ]
  go_wp2_with (go_at_call 40; refine (layer_any _ _).mono ?_; rintro e w1 ⟨rfl, rfl⟩)
  refine wp_loop_rounds 1 ?_
  rw [rounds_succ]
  go_wp2
  go_ret2
  exact ⟨rfl, ((Below.refl _ _).alloc (Nat.le_refl _) _).alloc (by simp) _⟩
end Go.Proofs.Ytlccbebociknaaa
