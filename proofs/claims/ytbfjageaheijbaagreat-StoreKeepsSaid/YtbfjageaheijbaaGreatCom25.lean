/- The landed journal: what only looks at the disk: usable, halfSectors, halfBytes, sectorOf. -/
import Derived.Test.YtbfjageaheijbaaGreatCom24
import Derived.Test.YtbfjageaheijbaaGreatCom6
import Derived.Test.YtbfjageaheijbaaGreatCom2
import Derived.Test.YtbfjageaheijbaaGreatCom17
import Derived.Test.YtbfjageaheijbaaGreatCom15
import Derived.Deep.QuietTactic
import Derived.BigQuiet
import Derived.Deep.RegionLaw
set_option linter.unusedSimpArgs false
set_option linter.unusedVariables false
namespace Go.Proofs.YtbfjageaheijbaaGreat
open Go.RowKit Dsk Jnl

section
variable {w : World} {F : Nat → Prop} {dv : Value} {d : D} {n : Nat}

set_option maxRecDepth 100000 in
theorem len_same (h : AtL w F dv d) (hn : d.S.length = n) : Calls Tryz.prog 75 #[dv] w fun e w' => e = .returned (.int .i64 (n : Int)) ∧ w = w' := by
  obtain ⟨⟨b, bm, sv, N, M, pv, rfl, h⟩, -⟩ := h
  obtain ⟨g, cap, rfl, hg⟩ := h.safeForm
  obtain ⟨c0, -, -, -, -, -, -, -⟩ := h.facts
  rw [hn] at c0
  clear h hg
  go_enter Tryz.func75, Tryz.ntmps75
  go_wp2_with fail
  go_ret
  exact ⟨rfl, rfl⟩

set_option maxRecDepth 100000 in
theorem atl_addr (h : AtL w F dv d) : ∃ b, dv = .pointer (some ⟨b, 0, none⟩) := by
  obtain ⟨⟨b, bm, sv, N, M, pv, rfl, h⟩, -⟩ := h
  exact ⟨b, rfl⟩

set_option maxRecDepth 100000 in
theorem usable_none (w : World) : Calls Tryz.prog 49 #[.pointer none] w fun e w' => e = .returned (.int .i64 1) ∧ w = w' := by
  go_enter Tryz.func49, Tryz.ntmps49
  go_wp2_with fail
  go_ret
  exact ⟨rfl, rfl⟩

set_option maxRecDepth 100000 in
theorem usable_few (h : AtL w F dv d) (hn : d.S.length < 4) : Calls Tryz.prog 49 #[dv] w fun e w' => e = .returned (.int .i64 2) ∧ w = w' := by
  have HL := Lib.hid (len_same h rfl)
  obtain ⟨b, rfl⟩ := atl_addr h
  have hb : decide ((d.S.length : Int) < 4) = true := decide_eq_true (by omega)
  generalize d.S.length = n at *
  clear h hn
  go_enter Tryz.func49, Tryz.ntmps49
  go_wp2_with (go_at_call 75; with_reducible refine HL.out.mono ?_; rintro e w' ⟨rfl, rfl⟩)
  go_ret
  exact ⟨rfl, rfl⟩

set_option maxRecDepth 100000 in
theorem usable_ok (h : AtL w F dv d) (hn : 4 ≤ d.S.length) : Calls Tryz.prog 49 #[dv] w fun e w' => e = .returned (.int .i64 0) ∧ w = w' := by
  have HL := Lib.hid (len_same h rfl)
  obtain ⟨b, rfl⟩ := atl_addr h
  have hb : decide ((d.S.length : Int) < 4) = false := decide_eq_false (by omega)
  generalize d.S.length = n at *
  clear h hn
  go_enter Tryz.func49, Tryz.ntmps49
  go_wp2_with (go_at_call 75; with_reducible refine HL.out.mono ?_; rintro e w' ⟨rfl, rfl⟩)
  go_ret
  exact ⟨rfl, rfl⟩

set_option maxRecDepth 100000 in
theorem half_sectors (h : AtL w F dv d) (hn : d.S.length = n) (h4 : 4 ≤ n) (hm : n ≤ 4096) : Calls Tryz.prog 94 #[dv] w fun e w' => e = .returned (.int .i64 (hof n : Int)) ∧ w = w' := by
  have HL := Lib.hid (len_same h hn)
  have hq : ((n : Int) - 2).tdiv 2 = (hof n : Int) := by
    rw [Int.tdiv_eq_ediv_of_nonneg (by omega)]
    unfold hof; omega
  have h4' : (4 : Int) ≤ (n : Int) := by omega
  have hm' : (n : Int) ≤ 4096 := by omega
  have hh : (hof n : Int) ≤ 4096 := by unfold hof; omega
  clear h hn h4 hm
  go_enter Tryz.func94, Tryz.ntmps94
  go_wp2_with (go_at_call 75; with_reducible refine HL.out.mono ?_; rintro e w' ⟨rfl, rfl⟩)
  go_ret
  exact ⟨rfl, rfl⟩

set_option maxRecDepth 100000 in
theorem half_bytes (h : AtL w F dv d) (hn : d.S.length = n) (h4 : 4 ≤ n) (hm : n ≤ 4096) : Calls Tryz.prog 66 #[dv] w fun e w' => e = .returned (.int .i64 ((64 * hof n : Nat) : Int)) ∧ w = w' := by
  have HL := Lib.hid (half_sectors h hn h4 hm)
  have hh : (hof n : Int) ≤ 4096 := by unfold hof; omega
  have hq : (hof n : Int) * 64 = ((64 * hof n : Nat) : Int) := by push_cast; omega
  clear h hn h4 hm
  go_enter Tryz.func66, Tryz.ntmps66
  go_wp2_with (go_at_call 94; with_reducible refine HL.out.mono ?_; rintro e w' ⟨rfl, rfl⟩)
  go_ret
  exact ⟨rfl, rfl⟩

set_option maxRecDepth 100000 in
theorem sector_of (h : AtL w F dv d) (hn : d.S.length = n) (h4 : 4 ≤ n) (hm : n ≤ 4096) {half at' : Nat} (hhalf : half ≤ 1) (hat : at' ≤ 64 * hof n) :
    Calls Tryz.prog 78 #[dv, .int .i64 (half : Int), .int .i64 (at' : Int)] w fun e w' => e = .returned (.int .i64 ((2 + half * hof n + at' / 64 : Nat) : Int)) ∧ w = w' := by
  have HL := Lib.hid (half_sectors h hn h4 hm)
  have hh : hof n ≤ 4096 := by unfold hof; omega
  have hmul : half * hof n ≤ hof n := half_base hhalf
  obtain ⟨k, hk⟩ : ∃ k, k = half * hof n := ⟨_, rfl⟩
  have hq : (half : Int) * (hof n : Int) = (k : Int) := by rw [hk]; push_cast; rfl
  have hd : (at' : Int).tdiv 64 = ((at' / 64 : Nat) : Int) := by
    rw [Int.tdiv_eq_ediv_of_nonneg (by omega)]; omega
  have hfin : Hid ((2 : Int) + (k : Int) + ((at' / 64 : Nat) : Int) = ((2 + half * hof n + at' / 64 : Nat) : Int)) := Lib.hid (by rw [← hk]; push_cast; rfl)
  have hk1 : (k : Int) ≤ 4096 := by omega
  have hd1 : ((at' / 64 : Nat) : Int) ≤ 4096 := by omega
  have ha1 : (at' : Int) ≤ 262144 := by omega
  clear h hn h4 hm hhalf hat hmul hk
  go_enter Tryz.func78, Tryz.ntmps78
  go_wp2_with (go_at_call 94; with_reducible refine HL.out.mono ?_; rintro e w' ⟨rfl, rfl⟩)
  go_ret
  exact ⟨by rw [← hfin.out]; rfl, rfl⟩
end
end Go.Proofs.YtbfjageaheijbaaGreat
/- What the package crc is to answer (CrcOk), which is proved of the landed code elsewhere. -/
namespace Go.Proofs.YtbfjageaheijbaaGreat
open Go.RowKit

def checkOf (s four : ByteArray) : Int := if four.size = 4 then (if four.data.toList = fourOf (Crc.sum s.data.toList).toNat then 0 else 7) else 5

/-- What the package is to answer. -/
structure CrcOk : Prop where
  sum : ∀ (s : ByteArray) (w : World), s.size ≤ 140737488351232 → Calls Tryz.prog 135 #[.string s] w fun e w' => e = .returned (.int .i64 ((Crc.sum s.data.toList).toNat : Int)) ∧ Below w.heap.size w w'
  four : ∀ (s : ByteArray) (w : World), s.size ≤ 140737488351232 → Calls Tryz.prog 109 #[.string s] w fun e w' => e = .returned (.string ⟨(fourOf (Crc.sum s.data.toList).toNat).toArray⟩) ∧ Below w.heap.size w w'

  check : ∀ (s four : ByteArray) (w : World), s.size ≤ 140737488351232 → Calls Tryz.prog 105 #[.string s, .string four] w fun e w' => e = .returned (.int .i64 (checkOf s four)) ∧ Below w.heap.size w w'

end Go.Proofs.YtbfjageaheijbaaGreat
/- The package frame as it landed: the function that lays a record, and Lay. -/
namespace Go.Proofs.YtbfjageaheijbaaGreat
open Go.ChangeShapes Go.WideShapes Go.ChangeAt Go.RowKit Go.Deep

set_option maxRecDepth 100000 in
/-- One text, laid by leb. -/
theorem lay_string (r : ByteArray) (hn : (Leb.enc r.size).length + r.size ≤ 65536) (w : World) :
    Calls Tryz.prog 97 #[.slice (some ⟨w.heap.size, 0, none⟩) 1 1] (w.alloc (.cells #[.int .i64 0, .string r, .bool true] 144)) fun e w' =>
      e = .returned (.tuple #[.string (mk (Leb.enc r.size ++ r.data.toList)), .int .i64 0]) ∧ Below w.heap.size w w' := by
  have hr := Row.made w 144 #[.int .i64 0, .string r, .bool true]
  have h : FieldsAt (w.alloc (.cells #[.int .i64 0, .string r, .bool true] 144)) w.heap.size 0 [⟨0, r, true⟩] := by
    intro i f hf
    rw [hr.at, hr.at, hr.at]
    match i, hf with
    | 0, hf => simp at hf; subst hf; exact ⟨rfl, rfl, rfl⟩
    | (j + 1), hf => simp at hf
  have hfit : Fits [⟨0, r, true⟩] := by
    intro i f hf
    match i, hf with
    | 0, hf => simp at hf; subst hf; exact ⟨by simp [Fl.head, numOf]; omega, by simp [Fl.body, strOf]; omega⟩
    | (j + 1), hf => simp at hf
  have hl : layOf [⟨0, r, true⟩] = (Leb.enc r.size ++ r.data.toList, 0) := by
    have hb : allBytes [⟨0, r, true⟩] = Leb.enc r.size ++ r.data.toList := by simp [allBytes, Fl.bytes, Fl.head, Fl.body, numOf, strOf]
    unfold layOf
    rw [hb, if_neg (by simp [Fl.head, numOf]), if_neg (by rw [List.length_append, ← Lib.size_eq]; omega)]
  refine (lay_any (cap := 1) h (by simp) (by simp) hfit).mono ?_
  rintro e w' ⟨rfl, hb⟩
  rw [hl]
  exact ⟨rfl, ((Below.refl _ _).alloc (Nat.le_refl _) _).trans (hb.mono (by simp))⟩

set_option maxRecDepth 100000 in
theorem own_kept {w w' : World} {base t size n : Nat} {v : Value} {xs : List Value} (h : w.ownsRow base t size v n xs) (hb : Below w.heap.size w w') : w'.ownsRow base t size v n xs := by
  refine h.kept (gb_below hb none) ?_
  cases hv : v.ownBlock <;> simp

set_option maxRecDepth 100000 in
set_option maxHeartbeats 3200000 in
theorem lay_record (HC : CrcOk) {w : World} {base c d : Nat} {l : List UInt8} (r : ByteArray) (h : Laid w base c d l) (hd : base ≤ d) (hB : base ≤ w.heap.size) (hl : l.length + (Frm.one r.data.toList).length ≤ 65536) :
    Calls Tryz.prog 133 #[.string r, .pointer (some ⟨c, 0, none⟩)] w fun e w' => e = .returned (.tuple #[]) ∧ Below base w w' ∧ Laid w' base c d (l ++ Frm.one r.data.toList) := by
  obtain ⟨i0, hi, hz0, hz1, hz2⟩ := info_parts byteInfo
  have hone := Frm.one_len r.data.toList
  rw [← Lib.size_eq] at hone
  have hr : r.size ≤ 65536 := by omega
  have hlay := fun W => lay_string r (by omega) W
  have hfour := fun W => HC.four r W (by omega)
  have hz : (mk (Leb.enc r.size ++ r.data.toList)).size = (Leb.enc r.size).length + r.size := by rw [mk_len, List.length_append, ← Lib.size_eq]
  have hz4 : (mk (Frm.sumOf r.data.toList)).size = 4 := rfl
  have hfour2 : ∀ W, Calls Tryz.prog 109 #[.string r] W fun e w' => e = .returned (.string (mk (Frm.sumOf r.data.toList))) ∧ Below W.heap.size W w' := hfour
  have hcs : Hid (Lib.strCells (mk (Leb.enc r.size ++ r.data.toList)) = Lib.byteCells (Leb.enc r.size ++ r.data.toList)) := Lib.hid (by rw [Lib.strCells_eq, mk_data])
  have hall : Hid (l ++ (Leb.enc r.size ++ r.data.toList) ++ (mk (Frm.sumOf r.data.toList)).data.toList = l ++ Frm.one r.data.toList) := Lib.hid (by rw [mk_data, Frm.one, ← Lib.size_eq]; simp)
  have hel : (Leb.enc r.size ++ r.data.toList).length = (mk (Leb.enc r.size ++ r.data.toList)).size := (mk_len _).symm
  have e1 : l.length + (mk (Leb.enc r.size ++ r.data.toList)).size + 4 ≤ 65540 := by rw [hz]; omega
  have Hlay := Lib.hid hlay
  have Hfour := Lib.hid hfour2
  have Hel := Lib.hid hel
  clear hlay hfour hfour2 hone hr hz hl hel
  generalize Leb.enc r.size ++ r.data.toList = sl at *
  generalize hX : mk sl = x at *
  generalize mk (Frm.sumOf r.data.toList) = y at *
  generalize Frm.one r.data.toList = one at *
  have E1 := Lib.hid e1
  have Hz4 := Lib.hid hz4
  clear hX e1 hz4
  have hlaid : ∀ (W : World), Below w.heap.size w W → Laid W base c d l ∧ Below base w W := fun W hW => ⟨h.below hW, hW.mono hB⟩
  have HL := Lib.hid hlaid
  clear hlaid h
  go_enter Tryz.func133, Tryz.ntmps133
  go_wp2_with (first
    | (go_at_call 95; refine (field_t _ _).mono ?_; rintro e w1 ⟨rfl, hb1⟩)
    | (go_at_call 97; refine (Hlay.out _).mono ?_; rintro e w2 ⟨rfl, hb2⟩; obtain ⟨⟨r1, v, r2, own⟩, hbel⟩ := HL.out w2 (hb1.trans (hb2.mono hb1.size)); obtain ⟨A, cap, rfl⟩ := own_shape own; have c1 : w2.cell? ⟨c, 0, none⟩ = some (.pointer (some ⟨d, 0, none⟩)) := r1.at 0; have c2 : w2.cell? ⟨d, 0, none⟩ = some (.slice A l.length cap) := r2.at 0))
  have hz1' : base ≤ w2.heap.size := by have := hbel.size; omega
  have hn1 : l.length + x.size ≤ maxLen := by have := E1.out; unfold maxLen; omega
  have hn2 : l.length + x.size ≤ 140737488355328 := by have := E1.out; omega
  have hn3 : l.length + x.size + y.size ≤ maxLen := by have := E1.out; have := Hz4.out; unfold maxLen; omega
  have hn4 : l.length + x.size + y.size ≤ 140737488355328 := by have := E1.out; have := Hz4.out; omega
  have N1 := Lib.hid hn1
  have N2 := Lib.hid hn2
  have N3 := Lib.hid hn3
  have N4 := Lib.hid hn4
  clear hn1 hn2 hn3 hn4
  have ownd : w2.drew.ownsRow base 5 1 (.slice A l.length cap) l.length (Lib.byteCells l) := own
  have r1d := r1.behindDraw
  have r2d := r2.behindDraw
  go_region_law
    (first
      | (refine step_append_text (by rfl) _ _ _ _ (by rfl) base 5 i0 Tryz.underlying99 Tryz.underlying9 hi hz0 hz1 hz2 _ _ _ (by rfl) own4 y (by rfl) N3.out N4.out (Nat.le_trans hz1' (Nat.le_trans hg3.size hb4.size)) ?_
         intro v5 w5 own5 hg5
         obtain ⟨A5, cap5, rfl⟩ := own_shape own5
         have hsp5 := Spares.grown own4 hg5
         have hb5 : Below base w4 w5 := (Below.refl _ _).grown hg5 (Nat.le_trans hz1' (Nat.le_trans hg3.size hb4.size)) (fun k hk => own_from own4 k hk)
         have c5 : w5.cell? ⟨c, 0, none⟩ = some (.pointer (some ⟨d, 0, none⟩)) := (hsp5 c _ _ (by decide) q1).at 0
         have d5 : w5.cell? ⟨d, 0, none⟩ = some (.slice A l.length cap) := (hsp5 d _ _ (by decide) q2).at 0
         have f5 := (hsp5 d _ _ (by decide) q2).free 0)
      | (refine step_append_text (by rfl) _ _ _ _ (by rfl) base 5 i0 Tryz.underlying99 Tryz.underlying9 hi hz0 hz1 hz2 _ _ _ (by rfl) ownd x (by rfl) N1.out N2.out hz1' ?_
         intro v3 w3 own3 hg3
         obtain ⟨A3, cap3, rfl⟩ := own_shape own3
         have hsp3 := Spares.grown ownd hg3
         have hb3 : Below base w2 w3 := (Below.refl _ w2).drew.grown hg3 hz1' (fun k hk => own_from ownd k hk)
         have p1 := hsp3 c _ _ (by decide) r1d
         have p2 := hsp3 d _ _ (by decide) r2d
         have c3 : w3.cell? ⟨c, 0, none⟩ = some (.pointer (some ⟨d, 0, none⟩)) := p1.at 0
         have d3 : w3.cell? ⟨d, 0, none⟩ = some (.slice A l.length cap) := p2.at 0)
      | (go_simp
         go_at_call 109
         refine (Hfour.out _).mono ?_
         rintro e w4 ⟨rfl, hb4⟩
         have own4 := own_kept own3 hb4
         have q1 := p1.below hb4 p1.inHeap
         have q2 := p2.below hb4 p2.inHeap
         have c4 : w4.cell? ⟨c, 0, none⟩ = some (.pointer (some ⟨d, 0, none⟩)) := q1.at 0
         have d4 : w4.cell? ⟨d, 0, none⟩ = some (.slice A l.length cap) := q2.at 0))
  all_goals
    have own6 := own5
    rw [hcs.out, ← Hel.out] at own6
    have hb6 : Below base w w5 := ((hbel.trans hb3).trans (hb4.mono (Nat.le_trans hz1' hg3.size))).trans hb5
    obtain ⟨hB9, hL9, c9, d9⟩ := field_fin hb6 hd (hsp5 c _ _ (by decide) q1) (hsp5 d _ _ (by decide) q2) own6
    rw [hall.out] at hL9
    rw [Hel.out] at hB9 hL9
    have HB9 := Lib.hid hB9
    clear hb3 hsp3 c4 d4 own3 hg3 c3 d3 hbel own hB9
    go_end0
    exact ⟨rfl, HB9.out, hL9⟩

set_option maxRecDepth 100000 in
theorem frm_layer (d : Nat) (w : World) :
    Calls Tryz.prog 106 #[.pointer (some ⟨d, 0, none⟩)] w fun e w' =>
      e = .returned (.func (.func 133) #[] #[.pointer (some ⟨w.heap.size, 0, none⟩)]) ∧ w.alloc (.cells #[.pointer (some ⟨d, 0, none⟩)] 156) = w' := by
  go_enter Tryz.func106, Tryz.ntmps106
  go_wp2
  go_ret
  exact ⟨rfl, rfl⟩

/-- At the head of a round of Lay. -/
def FrmRel (w : World) (base c d : Nat) (l : List (List UInt8)) (k : Nat) (wr : World) : Prop := Below base w wr ∧ Laid wr base c d (Frm.all (l.take k))

set_option maxRecDepth 100000 in
set_option maxHeartbeats 1600000 in
theorem frm_lay (HC : CrcOk) {w : World} {F : Nat → Prop} {v : Value} {l : List (List UInt8)} (h : Cells w F v (texts l)) (hl : l.length ≤ 100000) (ht : ∀ t ∈ l, t.length ≤ 16777216) :
    Calls Tryz.prog 81 #[v] w fun e w' => e = .returned (.tuple (if (Frm.all l).length ≤ 65536 then #[.string (mk (Frm.all l)), .int .i64 0] else #[.string (mk []), .int .i64 4])) ∧ Below w.heap.size w w' := by
  have hsize := size_any h hl ht
  obtain ⟨A, cap, rfl, hcap, hat⟩ := h
  rw [texts_len] at hcap hat hsize ⊢
  have Hat := Lib.hid hat
  have hl' : (l.length : Int) ≤ 100000 := by omega
  by_cases hbig : (Frm.all l).length ≤ 65536
  · rw [if_pos hbig] at hsize
    have hb : decide (((Frm.all l).length : Int) > 65536) = false := by simp; omega
    have hb2 : ¬ (65536 : Int) < ((Frm.all l).length : Int) := by omega
    rw [if_pos hbig]
    have Hsize := Lib.hid hsize
    have Hbig := Lib.hid hbig
    clear hat hl ht hsize hbig
    go_enter Tryz.func81, Tryz.ntmps81
    go_wp2_with (first
      | (go_at_call 91; refine (Hsize.out).mono ?_; rintro e wo ⟨rfl, hbel⟩; have hz := hbel.size; have hstart : FrmRel w w.heap.size (wo.heap.size + 1) wo.heap.size l 0 ((wo.alloc (.cells #[.slice none 0 0] 99)).alloc (.cells #[.pointer (some ⟨wo.heap.size, 0, none⟩)] 156)) := ⟨(hbel.alloc hbel.size _).alloc (by simp; omega) _, by (have := Row.made (wo.alloc (.cells #[.slice none 0 0] 99)) 156 #[.pointer (some ⟨wo.heap.size, 0, none⟩)]; simpa using this), .slice none 0 0, (Row.made wo _ _).behindNew _, by (simpa [Frm.all, Lib.byteCells] using World.ownsRow_nil _ _ _ _)⟩)
      | (go_at_call 106; refine (frm_layer _ _).mono ?_; rintro e w1 ⟨rfl, rfl⟩))
    have Hstart := Lib.hid hstart
    clear hstart
    go_loopw [14] (fun i wx => ∃ j : Nat, j ≤ l.length ∧ i = .int .i64 j ∧ FrmRel w w.heap.size (wo.heap.size + 1) wo.heap.size l j wx) (fun i _ => l.length - (intOf i).toNat)
    case atStart => exact ⟨0, Nat.zero_le _, rfl, Hstart.out⟩
    case round =>
      obtain ⟨k, hk, rfl, hrel⟩ := hrel
      by_cases hlt : k < l.length
      · obtain ⟨b, o, rfl, -, hb, hc⟩ := Hat.out (by omega)
        obtain ⟨t, htk⟩ : ∃ t, l[k]? = some t := ⟨_, List.getElem?_eq_getElem hlt⟩
        have hce : wr.cell? ⟨b, o + k, none⟩ = some (.string (mk t)) := (hrel.1.cell (p := ⟨b, o + k, none⟩) hb).trans (hc k _ (texts_at htk))
        have hk0 : (0 : Int) ≤ (k : Int) := by omega
        have hk1 : (k : Int) < (l.length : Int) := by omega
        have hst := Frm.all_take l k t htk
        have hall := Frm.all_front l (k + 1)
        have hrec : Hid (Calls Tryz.prog 133 #[.string (mk t), .pointer (some ⟨wo.heap.size + 1, 0, none⟩)] wr fun e w' => e = .returned (.tuple #[]) ∧ FrmRel w w.heap.size (wo.heap.size + 1) wo.heap.size l (k + 1) w') := Lib.hid (by
          refine (lay_record HC (mk t) hrel.2 hz hrel.1.size (by rw [mk_data, ← List.length_append, ← hst]; have := Hbig.out; omega)).mono ?_
          rintro e w' ⟨h1, h2, h3⟩
          rw [mk_data, ← hst] at h3
          exact ⟨h1, hrel.1.trans h2, h3⟩)
        clear hst hall hc htk hrel
        generalize mk t = x at *
        go_wp2_with (go_at_call 133; refine (hrec.out).mono ?_; rintro e w1 ⟨rfl, hr1⟩)
        go_roundw
        case rel => exact ⟨k + 1, by omega, by go_num, hr1⟩
        case measure => simp [intOf]; omega
      · obtain rfl : k = l.length := by omega
        obtain ⟨hb2, _, v, r2, own⟩ := hrel
        have htext := run_text own
        have cd : wr.cell? ⟨wo.heap.size, 0, none⟩ = some v := r2.at 0
        rw [List.take_length] at htext
        clear own r2
        go_wp2
        go_ret2
        exact ⟨rfl, hb2⟩
  · rw [if_neg hbig] at hsize
    rw [if_neg hbig]
    have Hsize := Lib.hid hsize
    clear hat hl ht hsize hbig
    go_enter Tryz.func81, Tryz.ntmps81
    go_wp2_with (first
      | (go_at_call 91; refine (Hsize.out).mono ?_; rintro e wo ⟨rfl, hbel⟩))
    go_ret2
    exact ⟨rfl, hbel⟩
end Go.Proofs.YtbfjageaheijbaaGreat
/- The package frame as it landed: First. -/
namespace Go.Proofs.YtbfjageaheijbaaGreat
open Go.ChangeShapes Go.WideShapes Go.ChangeAt Go.RowKit Go.Deep

set_option maxRecDepth 100000 in
theorem stepT_ok (S : List UInt8) (h : (Leb.second S).2.2 = 0) : stepT S 0 = ((Leb.second S).1, S.drop (Leb.second S).2.1, 0) := by simp [stepT, h]
set_option maxRecDepth 100000 in
theorem stepT_bad (S : List UInt8) (h : (Leb.second S).2.2 ≠ 0) : stepT S 0 = ([], [], (Leb.second S).2.2) := by simp [stepT, h]

set_option maxRecDepth 100000 in
set_option maxHeartbeats 1600000 in
/-- Where there is a text at the front. -/
theorem first_some {s t rest four : ByteArray} {k m : Nat} {x : Int} (w : World) (hs : s.size ≤ 200000)
    (hT : ∀ (W : World) (b : Nat), RdL W b s.data.toList 0 → Calls Tryz.prog 87 #[.pointer (some ⟨b, 0, none⟩)] W fun e w' => e = .returned (.string t) ∧ Rd w' b rest 0 ∧ W.grownBy w' (some b))
    (hC : ∀ W : World, Calls Tryz.prog 105 #[.string t, .string four] W fun e w' => e = .returned (.int .i64 x) ∧ Below W.heap.size W w')
    (hrest : s.extract k s.size = rest) (hk : k ≤ s.size) (hr : rest.size = s.size - k) (hm : m = min 4 rest.size) (hfour : rest.extract 0 m = four) :
    Calls Tryz.prog 79 #[.string s] w fun e w' => e = .returned (.tuple (if x = 0 then #[.string t, .int .i64 (k + 4 : Nat), .int .i64 0] else #[.string (mk []), .int .i64 0, .int .i64 x])) ∧ Below w.heap.size w w' := by
  have hsub : (s.size : Int) - (rest.size : Int) = (k : Int) := by omega
  have hk0 : (k : Int) ≤ (s.size : Int) := by omega
  have hrs : (rest.size : Int) ≤ 200000 := by omega
  have hss : (s.size : Int) ≤ 200000 := by omega
  have hmm : m ≤ rest.size := by omega
  have hmi : (m : Int) ≤ (rest.size : Int) := by omega
  have hmin : min (4 : Int) (rest.size : Int) = (m : Int) := by omega
  have hm0 : (0 : Int) ≤ (m : Int) := by omega
  have h5 : (4 : Int) ≤ (rest.size : Int) ∧ m = 4 ∨ (rest.size : Int) < 4 ∧ m = rest.size := by omega
  have HT := Lib.hid hT
  have HC := Lib.hid hC
  clear hT hC hs hr hm
  by_cases hx : x = 0
  · subst hx
    rw [if_pos rfl]
    rcases h5 with ⟨h5, rfl⟩ | ⟨h5, rfl⟩
    all_goals
      go_enter Tryz.func79, Tryz.ntmps79
      go_wp2_with (first
        | (go_at_call 58; refine (over_any _ _).mono ?_; rintro e w1 ⟨rfl, h1, hb1⟩)
        | (go_at_call 87; refine (HT.out _ _ h1).mono ?_; rintro e w2 ⟨rfl, h2, hb2⟩)
        | (go_at_call 61; refine (err_any h2).mono ?_; rintro e w' ⟨rfl, rfl⟩)
        | (go_at_call 59; refine (left_any h2).mono ?_; rintro e w' ⟨rfl, rfl⟩)
        | (go_at_call 105; refine (HC.out _).mono ?_; rintro e w3 ⟨rfl, hb3⟩))
      go_ret3
      have z1 := hb1.size
      have z2 := hb2.size
      exact ⟨rfl, (hb1.trans (below_gb hb2 (Nat.le_refl _) z1)).trans (hb3.mono (by omega))⟩
  · rw [if_neg hx]
    have hb : (x != 0) = true := by simp [hx]
    clear hx
    rcases h5 with ⟨h5, rfl⟩ | ⟨h5, rfl⟩
    all_goals
      go_enter Tryz.func79, Tryz.ntmps79
      go_wp2_with (first
        | (go_at_call 58; refine (over_any _ _).mono ?_; rintro e w1 ⟨rfl, h1, hb1⟩)
        | (go_at_call 87; refine (HT.out _ _ h1).mono ?_; rintro e w2 ⟨rfl, h2, hb2⟩)
        | (go_at_call 61; refine (err_any h2).mono ?_; rintro e w' ⟨rfl, rfl⟩)
        | (go_at_call 59; refine (left_any h2).mono ?_; rintro e w' ⟨rfl, rfl⟩)
        | (go_at_call 105; refine (HC.out _).mono ?_; rintro e w3 ⟨rfl, hb3⟩))
      go_ret3
      have z1 := hb1.size
      have z2 := hb2.size
      exact ⟨rfl, (hb1.trans (below_gb hb2 (Nat.le_refl _) z1)).trans (hb3.mono (by omega))⟩

set_option maxRecDepth 100000 in
set_option maxHeartbeats 1600000 in
theorem frm_first (HC : CrcOk) (s : ByteArray) (w : World) (hs : s.size ≤ 200000) :
    Calls Tryz.prog 79 #[.string s] w (FirstIs (Frm.first s.data.toList).1 (Frm.first s.data.toList).2.1 (Frm.first s.data.toList).2.2 w) := by
  have hss : s.data.toList.length = s.size := (Lib.size_eq s).symm
  by_cases he : (Leb.second s.data.toList).2.2 = 0
  · obtain ⟨g1, g2, g3, g4⟩ := Frm.second_only s.data.toList (Leb.second s.data.toList).1 (Leb.second s.data.toList).2.1 (by rw [← he])
    have ht := stepT_ok s.data.toList he
    have hT : ∀ (W : World) (b : Nat), RdL W b s.data.toList 0 → Calls Tryz.prog 87 #[.pointer (some ⟨b, 0, none⟩)] W fun e w' => e = .returned (.string (mk (Leb.second s.data.toList).1)) ∧ Rd w' b (mk (s.data.toList.drop (Leb.second s.data.toList).2.1)) 0 ∧ W.grownBy w' (some b) := by
      intro W b hW
      have := t_any hW (by omega)
      rw [ht] at this
      exact this
    have hlt : (Leb.second s.data.toList).1.length ≤ 200000 := by omega
    have hC := fun (four : ByteArray) (W : World) => HC.check (mk (Leb.second s.data.toList).1) four W (by rw [mk_len]; omega)
    have hrest : s.extract (Leb.second s.data.toList).2.1 s.size = mk (s.data.toList.drop (Leb.second s.data.toList).2.1) := bytes_ext (by rw [Lib.extract_data, mk_data, ← hss, ← List.length_drop, List.take_length])
    have hfour : (mk (s.data.toList.drop (Leb.second s.data.toList).2.1)).extract 0 (min 4 (mk (s.data.toList.drop (Leb.second s.data.toList).2.1)).size) = mk ((s.data.toList.drop (Leb.second s.data.toList).2.1).take 4) := bytes_ext (by
      rw [Lib.extract_data, mk_data, mk_data, mk_len, List.drop_zero, Nat.sub_zero]
      rcases Nat.le_total 4 (s.data.toList.drop (Leb.second s.data.toList).2.1).length with h | h
      · rw [Nat.min_eq_left h]
      · rw [Nat.min_eq_right h, List.take_length, List.take_of_length_le h])
    have hlen : (mk (s.data.toList.drop (Leb.second s.data.toList).2.1)).size = s.size - (Leb.second s.data.toList).2.1 := by rw [mk_len, List.length_drop, hss]
    refine (first_some w hs hT (hC _) hrest (by omega) hlen rfl hfour).mono ?_
    rintro e w' ⟨rfl, hb⟩
    refine ⟨?_, hb⟩
    have hcheck : checkOf (mk (Leb.second s.data.toList).1) (mk ((s.data.toList.drop (Leb.second s.data.toList).2.1).take 4)) = if s.data.toList.length - (Leb.second s.data.toList).2.1 < 4 then 5 else if (s.data.toList.drop (Leb.second s.data.toList).2.1).take 4 = Frm.sumOf (Leb.second s.data.toList).1 then 0 else 7 := by
      unfold checkOf
      rw [mk_len, mk_data, mk_data, List.length_take, List.length_drop]
      by_cases h4 : s.data.toList.length - (Leb.second s.data.toList).2.1 < 4
      · rw [if_neg (by omega), if_pos h4]
      · rw [if_pos (by omega), if_neg h4]
        rfl
    rw [hcheck]
    unfold Frm.first
    rw [if_pos he]
    by_cases h4 : s.data.toList.length - (Leb.second s.data.toList).2.1 < 4
    · rw [if_pos h4, if_pos h4]
      rfl
    · rw [if_neg h4, if_neg h4]
      by_cases hq : (s.data.toList.drop (Leb.second s.data.toList).2.1).take 4 = Frm.sumOf (Leb.second s.data.toList).1
      · rw [if_pos hq, if_pos hq]
        rfl
      · rw [if_neg hq, if_neg hq]
        rfl
  · have hfin : Hid (Frm.first s.data.toList = ([], 0, (Leb.second s.data.toList).2.2)) := by
      unfold Frm.first
      rw [if_neg he]; rfl
    have hb : ((Leb.second s.data.toList).2.2 != 0) = true := by simp [he]
    have ht := stepT_bad s.data.toList he
    have hT : Hid (∀ (W : World) (b : Nat), RdL W b s.data.toList 0 → Calls Tryz.prog 87 #[.pointer (some ⟨b, 0, none⟩)] W fun e w' => e = .returned (.string (mk [])) ∧ Rd w' b (mk []) (Leb.second s.data.toList).2.2 ∧ W.grownBy w' (some b)) := Lib.hid (by
      intro W b hW
      have := t_any hW (by omega)
      rw [ht] at this
      exact this)
    clear ht he
    generalize (Leb.second s.data.toList).2.2 = x at *
    go_enter Tryz.func79, Tryz.ntmps79
    go_wp2_with (first
      | (go_at_call 58; refine (over_any _ _).mono ?_; rintro e w1 ⟨rfl, h1, hb1⟩)
      | (go_at_call 87; refine (hT.out _ _ h1).mono ?_; rintro e w2 ⟨rfl, h2, hb2⟩)
      | (go_at_call 61; refine (err_any h2).mono ?_; rintro e w' ⟨rfl, rfl⟩))
    go_ret3
    have z1 := hb1.size
    exact ⟨by rw [hfin.out]; rfl, hb1.trans (below_gb hb2 (Nat.le_refl _) z1)⟩
end Go.Proofs.YtbfjageaheijbaaGreat
/- The package frame as it landed: Read; a text laid into a block of its own and appended. -/
namespace Go.Proofs.YtbfjageaheijbaaGreat
open Go.ChangeShapes Go.WideShapes Go.ChangeAt Go.RowKit Go.Deep

set_option maxRecDepth 100000 in
theorem gb_undrew {a w : World} {r : Option Nat} (h : a.drew.grownBy w r) : a.grownBy w r := ⟨h.os, h.tape, h.output, h.size, h.block⟩

set_option maxRecDepth 100000 in
/-- A text laid into a block of its own and appended, in a region that draws its order. -/
theorem step_text {ops : Array Oper} {o : Oper} {a : Act} {base : Nat} {wr : World} {K : Act → World → Prop} {Q : Exit → Act → World → Prop} {E : Prop} (hgd : o.guard = none) (s x : Operand)
    (ho : o.op = .call { callee := .builtin .append, args := #[s, x], argTypes := #[55, 55] })
    (v : Value) (k : Nat) (q : ByteArray) (xs : List Value) (hs : a.eval s = v) (hx : a.eval x = .slice (some ⟨wr.heap.size, 0, none⟩) 1 1)
    (hown : wr.ownsRow base 9 1 v k xs) (hbase : base ≤ wr.heap.size) (hk : k + 1 ≤ 8796093022207)
    (h : ∀ v' w', w'.ownsRow base 9 1 v' (k + 1) (xs ++ [.string q]) → (wr.alloc (.cells #[.string q] 9)).drew.grownBy w' v.ownBlock → K (a.put o.dst v') w') :
    if Region.wanted o (yielded ops a.tmps) = true then Oper.wp Tryz.prog o a (wr.alloc (.cells #[.string q] 9)).drew K Q else E := by
  obtain ⟨i0, hi, hz0, hz1, hz2⟩ := info_parts strInfo
  refine step_append_lies _ hgd s x _ ho base 9 i0 (.string ⟨#[]⟩) 1 16 Tryz.underlying55 hi hz0 hz1 hz2 rfl (by decide) v k xs hs (hown.alloc _).drew ⟨wr.heap.size, 0, none⟩ 1 1 [.string q] hx (by rfl) (World.news_of_block (cs := #[.string q]) (t := 9) (fr := (0, 0)) (heap_alloc_new wr _)) (by simp [Value.oneCell']) (by decide) (by unfold maxLen; omega) (by omega) (Nat.le_trans hbase (by simp)) _ rfl ?_
  intro g2 cap2 w2 hown2 hg2 _ _
  exact h _ _ hown2 hg2

set_option maxRecDepth 100000 in
set_option maxHeartbeats 1600000 in
theorem frm_read (HC : CrcOk) (s : ByteArray) (w : World) (hs : s.size ≤ 200000) :
    Calls Tryz.prog 52 #[.string s] w fun e w' => ∃ v, e = .returned (.tuple #[v, .int .i64 (Frm.read s.data.toList).2]) ∧ Cells w' (NewIn w w') v (texts (Frm.read s.data.toList).1) ∧ Below w.heap.size w w' := by
  obtain ⟨S, rfl⟩ : ∃ S, s = mk S := ⟨_, (mk_of s).symm⟩
  rw [mk_data]
  rw [mk_len] at hs
  go_enter Tryz.func52, Tryz.ntmps52
  go_wp2_with fail
  go_loopw [0, 4] (fun o v wr => ∃ (d : List (List UInt8)) (r : List UInt8), o = .string (mk r) ∧ Rest S d r ∧ TextsOwn w d v wr) (fun o _ _ => sizeIn o)
  case atStart => exact ⟨[], S, rfl, rest_start S, texts_start w⟩
  case round =>
    obtain ⟨d, r, rfl, hrest, hown⟩ := hrel
    by_cases hr : r = []
    · subst hr
      have hfin := Lib.hid (rest_end hrest)
      have Hown := Lib.hid hown
      have hb : ((mk []).toList != []) = false := by rw [Lib.toList_data]; rfl
      have hb2 : (mk []).toList.isEmpty = true := by rw [Lib.toList_data]; rfl
      clear hown hrest
      go_wp2_with fail
      go_ret2
      exact ⟨u4, by rw [hfin.out]; rfl, by rw [hfin.out]; exact Hown.out.cells, Hown.out.2⟩
    · have hr0 : 0 < r.length := List.length_pos_iff.2 hr
      have hrl := hrest.1
      have hne : (mk r).toList.isEmpty = false := by
        rw [List.isEmpty_eq_false_iff, Lib.toList_data, mk_data]; exact hr
      have hne2 : ((mk r).toList != []) = true := by
        rw [bne_iff_ne, Lib.toList_data, mk_data]; exact hr
      have hfrm := fun W => frm_first HC (mk r) W (by rw [mk_len]; omega)
      rw [mk_data] at hfrm
      by_cases hx : (Frm.first r).2.2 = 0
      · obtain ⟨-, hn, hrr, -⟩ := Frm.first_only r (Frm.first r).1 (Frm.first r).2.1 (by rw [← hx])
        have hnl : (Frm.first r).2.1 ≤ r.length := by
          have e := congrArg List.length hrr
          rw [List.length_append, List.length_drop, ← hn] at e
          omega
        have hstep := Lib.hid (rest_step hrest hr hx)
        have hn5 := (Frm.first_only r (Frm.first r).1 (Frm.first r).2.1 (by rw [← hx])).2.2.2
        have hcut : Hid ((mk r).extract (Frm.first r).2.1 (mk r).size = mk (r.drop (Frm.first r).2.1)) := bytes_ext (by
          rw [Lib.extract_data, mk_data, mk_len, mk_data, ← List.length_drop, List.take_length])
        have hnl2 : ((Frm.first r).2.1 : Int) ≤ ((mk r).size : Int) := by rw [mk_len]; omega
        have hmeas : Hid ((mk (r.drop (Frm.first r).2.1)).size < (mk r).size) := Lib.hid (by rw [mk_len, mk_len, List.length_drop]; omega)
        have hdl : Hid (d.length ≤ 200000) := Lib.hid (by omega)
        have hrz : ((mk r).size : Int) ≤ 200000 := by rw [mk_len]; omega
        rw [hx] at hfrm
        have HF := Lib.hid hfrm
        clear hfrm hn hrr hnl hx hn5 hrest hr hr0 hrl
        generalize (Frm.first r).1 = t at *
        generalize (Frm.first r).2.1 = n at *
        generalize hy2 : mk (r.drop n) = y2 at *
        generalize mk r = y at *
        generalize hxx : mk t = x at *
        go_wp2_with fail
        refine (HF.out wr).mono ?_
        rintro e w1 ⟨rfl, h1⟩
        rw [hxx]
        have hown1 := hown.below h1
        have Hown1 := Lib.hid hown1
        have hz := hown1.2.size
        have hown1 := hown1.1
        have hk1 : d.length + 1 ≤ 8796093022207 := by have := hdl.out; omega
        clear h1 hown
        go_wp2_with fail
        go_region_law (first
          | (refine step_text (by rfl) _ _ (by rfl) _ _ x _ (by rfl) (by rfl) hown1 hz hk1 ?_
             intro v2 w2 hown2 hg2))
        all_goals
          have hnew := texts_more Hown1.out (x := t) (v' := v2) (by rw [hxx]; exact hown2) (gb_undrew hg2)
          simp only [Act.put, List.getElem_toArray, List.getElem_cons_zero, List.getElem_cons_succ, List.setIfInBounds_toArray, List.set_cons_zero, List.set_cons_succ]
          go_wp2_with fail
          refine ⟨⟨_, r.drop n, by rw [hcut.out, hy2], hstep.out, hnew⟩, ?_⟩
          rw [hcut.out]; exact hmeas.out
      · have hfin := Lib.hid (rest_bad hrest hr hx)
        have hb2 : ((Frm.first r).2.2 != 0) = true := by simp [hx]
        have HF := Lib.hid hfrm
        have Hown := Lib.hid hown
        clear hfrm hown hrest hr hr0 hrl
        generalize (Frm.first r).2.2 = x at *
        generalize (Frm.first r).1 = t at *
        generalize (Frm.first r).2.1 = n at *
        generalize mk r = y at *
        go_wp2_with fail
        refine (HF.out wr).mono ?_
        rintro e w1 ⟨rfl, h1⟩
        have h1 := Lib.hid h1
        go_wp2_with fail
        go_ret2
        exact ⟨.slice none 0 0, by rw [hfin.out]; rfl, by rw [hfin.out]; exact Cells.none _ _, Hown.out.2.trans (h1.out.mono Hown.out.2.size)⟩
end Go.Proofs.YtbfjageaheijbaaGreat
