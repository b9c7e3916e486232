/- The package frame as it landed: how many bytes a record's length stands in, and Size. -/
import Derived.Test.YtcgplonnhginiaaCom19
import Derived.Test.YtcgplonnhginiaaCom21
import Derived.Test.YtcgplonnhginiaaCom2
namespace Go.Proofs.Ytcgplonnhginiaa
open Go.ChangeShapes Go.WideShapes Go.ChangeAt Go.RowKit Go.Deep

set_option maxRecDepth 100000 in
/-- One number, laid by leb. -/
theorem lay_number (n : Nat) (hn : n ≤ 65536) (w : World) :
    Calls Try.prog 59 #[.slice (some ⟨w.heap.size, 0, none⟩) 1 1] (w.alloc (.cells #[.int .i64 (n : Int), .string ⟨#[]⟩, .bool false] 96)) fun e w' =>
      e = .returned (.tuple #[.string (mk (Leb.enc n)), .int .i64 0]) ∧ Below w.heap.size w w' := by
  have hr := Row.made w 96 #[.int .i64 (n : Int), .string ⟨#[]⟩, .bool false]
  have h : FieldsAt (w.alloc (.cells #[.int .i64 (n : Int), .string ⟨#[]⟩, .bool false] 96)) w.heap.size 0 [⟨n, ⟨#[]⟩, false⟩] := by
    intro i f hf
    rw [hr.at, hr.at, hr.at]
    match i, hf with
    | 0, hf => simp at hf; subst hf; exact ⟨rfl, rfl, rfl⟩
    | (j + 1), hf => simp at hf
  have hfit : Fits [⟨n, ⟨#[]⟩, false⟩] := by
    intro i f hf
    match i, hf with
    | 0, hf => simp at hf; subst hf; exact ⟨by simp [Fl.head, numOf]; omega, by simp [Fl.body, strOf]; decide⟩
    | (j + 1), hf => simp at hf
  have hl : layOf [⟨n, ⟨#[]⟩, false⟩] = (Leb.enc n, 0) := by
    have hb : allBytes [⟨(n : Int), ⟨#[]⟩, false⟩] = Leb.enc n := by simp [allBytes, Fl.bytes, Fl.head, Fl.body, numOf, strOf]
    unfold layOf
    rw [hb, if_neg (by simp [Fl.head, numOf]), if_neg (by have := (Leb.enc_len n).2; omega)]
  refine (lay_any (cap := 1) h (by simp) (by simp) hfit).mono ?_
  rintro e w' ⟨rfl, hb⟩
  rw [hl]
  exact ⟨rfl, ((Below.refl _ _).alloc (Nat.le_refl _) _).trans (hb.mono (by simp))⟩

set_option maxRecDepth 100000 in
theorem length_bytes (r : ByteArray) (w : World) (h : r.size ≤ 65536) :
    Calls Try.prog 82 #[.string r] w fun e w' => e = .returned (.int .i64 ((Leb.enc r.size).length : Int)) ∧ Below w.heap.size w w' := by
  have hlay := fun W => lay_number r.size h W
  have hz : (mk (Leb.enc r.size)).size = (Leb.enc r.size).length := mk_len _
  have Hlay := Lib.hid hlay
  clear hlay h
  generalize hm : mk (Leb.enc r.size) = y at *
  rw [← hz]
  clear hz hm
  go_enter Try.func82, Try.ntmps82
  go_wp2_with (first
    | (go_at_call 60; refine (field_n _ _).mono ?_; rintro e w1 ⟨rfl, hb1⟩)
    | (go_at_call 59; refine (Hlay.out _).mono ?_; rintro e w3 ⟨rfl, hb3⟩))
  go_ret
  exact ⟨rfl, hb1.trans (hb3.mono hb1.size)⟩

namespace Frm
set_option maxRecDepth 100000 in
theorem all_split (l : List (List UInt8)) (k : Nat) : all l = all (l.take k) ++ all (l.drop k) := by
  unfold all
  rw [← List.flatMap_append, List.take_append_drop]
set_option maxRecDepth 100000 in
theorem all_front (l : List (List UInt8)) (k : Nat) : (all (l.take k)).length ≤ (all l).length := by
  rw [all_split l k, List.length_append]; omega
set_option maxRecDepth 100000 in
theorem all_take (l : List (List UInt8)) (k : Nat) (t : List UInt8) (h : l[k]? = some t) : all (l.take (k + 1)) = all (l.take k) ++ one t := by
  obtain ⟨hl, he⟩ := List.getElem?_eq_some_iff.1 h
  rw [List.take_succ_eq_append_getElem hl, he, all_snoc]
end Frm

set_option maxRecDepth 100000 in
set_option maxHeartbeats 1600000 in
theorem size_any {w : World} {F : Nat → Prop} {v : Value} {l : List (List UInt8)} (h : Cells w F v (texts l)) (hl : l.length ≤ 100000) (ht : ∀ t ∈ l, t.length ≤ 16777216) :
    Calls Try.prog 69 #[v] w fun e w' => e = .returned (.int .i64 (if (Frm.all l).length ≤ 65536 then ((Frm.all l).length : Int) else 65537)) ∧ Below w.heap.size w w' := by
  obtain ⟨A, cap, rfl, hcap, hat⟩ := h
  rw [texts_len] at hcap hat ⊢
  have Hat := Lib.hid hat
  have Ht := Lib.hid ht
  have hl' : (l.length : Int) ≤ 100000 := by omega
  obtain ⟨R, hR⟩ : ∃ R : Int, R = if (Frm.all l).length ≤ 65536 then ((Frm.all l).length : Int) else 65537 := ⟨_, rfl⟩
  rw [← hR]
  have HR := Lib.hid hR
  clear hat hl ht hR
  go_enter Try.func69, Try.ntmps69
  go_wp2_with fail
  go_loopw [3, 8] (fun n i wr => ∃ k : Nat, k ≤ l.length ∧ i = .int .i64 (k : Int) ∧ n = .int .i64 ((Frm.all (l.take k)).length : Int) ∧ (Frm.all (l.take k)).length ≤ 65560 ∧ Below w.heap.size w wr) (fun _ i _ => l.length - (intOf i).toNat)
  case atStart => exact ⟨0, Nat.zero_le _, rfl, rfl, by simp [Frm.all], Below.refl _ _⟩
  case round =>
    obtain ⟨k, hk, rfl, rfl, hle, hbel⟩ := hrel
    have Hbel := Lib.hid hbel
    by_cases hlt : k < l.length
    · obtain ⟨b, o, rfl, -, hb, hc⟩ := Hat.out (by omega)
      obtain ⟨t, htk⟩ : ∃ t, l[k]? = some t := ⟨_, List.getElem?_eq_getElem hlt⟩
      have hce : wr.cell? ⟨b, o + k, none⟩ = some (.string (mk t)) := (hbel.cell (p := ⟨b, o + k, none⟩) hb).trans (hc k _ (texts_at htk))
      have hk0 : (0 : Int) ≤ (k : Int) := by omega
      have hk1 : (k : Int) < (l.length : Int) := by omega
      have hsz : (mk t).size = t.length := mk_len t
      have ht24 : t.length ≤ 16777216 := Ht.out t (List.mem_of_getElem? htk)
      have hst := Frm.all_take l k t htk
      have hst2 : (Frm.all (l.take (k + 1))).length = (Frm.all (l.take k)).length + ((Leb.enc t.length).length + t.length + 4) := by rw [hst, List.length_append, Frm.one_len]
      have hall := Frm.all_front l (k + 1)
      have hen := (Leb.enc_len t.length).2
      obtain ⟨m, hm⟩ : ∃ m, m = (Frm.all (l.take k)).length := ⟨_, rfl⟩
      rw [← hm] at hle hst2 ⊢
      by_cases hbig : m + t.length ≤ 65536
      · have hlb := fun W => length_bytes (mk t) W (by rw [hsz]; omega)
        rw [hsz] at hlb
        have Hlb := Lib.hid hlb
        have hdec : decide ((65536 : Int) - (m : Int) < ((mk t).size : Int)) = false := by rw [hsz]; simp; omega
        have hn0 : (m : Int) ≤ 65560 := by omega
        have hsum : Hid ((m : Int) + (((Leb.enc t.length).length : Int) + ((mk t).size : Int) + 4) = ((Frm.all (l.take (k + 1))).length : Int))   := Lib.hid (by rw [hsz]; omega)
        have hle2 : Hid ((Frm.all (l.take (k + 1))).length ≤ 65560) := Lib.hid (by omega)
        have he9 : (((Leb.enc t.length).length : Nat) : Int) ≤ 9 := by omega
        have he0 : (0 : Int) ≤ (((Leb.enc t.length).length : Nat) : Int) := by omega
        have ht0 : ((mk t).size : Int) ≤ 65536 := by rw [hsz]; omega
        clear hlb hst hst2 hall hm hc htk hsz hbel hen hbig ht24
        generalize (Leb.enc t.length).length = q at *
        generalize hy : mk t = y at *
        go_wp2_with (go_at_call 82; refine (Hlb.out _).mono ?_; rintro e w1 ⟨rfl, hb1⟩)
        go_roundw
        case rel => exact ⟨k + 1, by omega, by go_num, by rw [← hsum.out], hle2.out, Hbel.out.trans (hb1.mono Hbel.out.size)⟩
        case measure => simp [intOf]; omega
      · have hdec : decide ((65536 : Int) - (m : Int) < ((mk t).size : Int)) = true := by rw [hsz]; simp; omega
        have hn0 : (m : Int) ≤ 65560 := by omega
        have hfin : Hid (R = 65537) := Lib.hid (HR.out.trans (if_neg (by omega)))
        clear hst hst2 hall hm hc htk hbel hen hbig ht24 hsz
        generalize hy : mk t = y at *
        go_wp2_with fail
        go_ret
        exact ⟨by rw [hfin.out]; rfl, Hbel.out⟩
    · obtain rfl : k = l.length := by omega
      rw [List.take_length] at hle ⊢
      have hfin : Hid (R = min ((Frm.all l).length : Int) 65537) := Lib.hid (by
        rw [HR.out]
        split <;> omega)
      clear HR
      have hn0 : ((Frm.all l).length : Int) ≤ 65560 := by omega
      generalize (Frm.all l).length = m at *
      clear hle hbel
      by_cases h5 : (m : Int) ≤ 65537
      · have hmin : min (m : Int) 65537 = m := by omega
        go_wp2_with fail
        go_ret
        exact ⟨by rw [hfin.out, hmin]; rfl, Hbel.out⟩
      · have hmin : min (m : Int) 65537 = 65537 := by omega
        go_wp2_with fail
        go_ret
        exact ⟨by rw [hfin.out, hmin]; rfl, Hbel.out⟩
end Go.Proofs.Ytcgplonnhginiaa
/- What the package crc is to answer (CrcOk), which is proved of the landed code elsewhere. -/
namespace Go.Proofs.Ytcgplonnhginiaa
open Go.RowKit

def checkOf (s four : ByteArray) : Int := if four.size = 4 then (if four.data.toList = fourOf (Crc.sum s.data.toList).toNat then 0 else 7) else 5

/-- What the package is to answer. -/
structure CrcOk : Prop where
  sum : ∀ (s : ByteArray) (w : World), s.size ≤ 140737488351232 → Calls Try.prog 76 #[.string s] w fun e w' => e = .returned (.int .i64 ((Crc.sum s.data.toList).toNat : Int)) ∧ Below w.heap.size w w'
  four : ∀ (s : ByteArray) (w : World), s.size ≤ 140737488351232 → Calls Try.prog 61 #[.string s] w fun e w' => e = .returned (.string ⟨(fourOf (Crc.sum s.data.toList).toNat).toArray⟩) ∧ Below w.heap.size w w'

  check : ∀ (s four : ByteArray) (w : World), s.size ≤ 140737488351232 → Calls Try.prog 67 #[.string s, .string four] w fun e w' => e = .returned (.int .i64 (checkOf s four)) ∧ Below w.heap.size w w'

end Go.Proofs.Ytcgplonnhginiaa
/- The package frame as it landed: the function that lays a record, and Lay. -/
namespace Go.Proofs.Ytcgplonnhginiaa
open Go.ChangeShapes Go.WideShapes Go.ChangeAt Go.RowKit Go.Deep

set_option maxRecDepth 100000 in
/-- One text, laid by leb. -/
theorem lay_string (r : ByteArray) (hn : (Leb.enc r.size).length + r.size ≤ 65536) (w : World) :
    Calls Try.prog 59 #[.slice (some ⟨w.heap.size, 0, none⟩) 1 1] (w.alloc (.cells #[.int .i64 0, .string r, .bool true] 96)) fun e w' =>
      e = .returned (.tuple #[.string (mk (Leb.enc r.size ++ r.data.toList)), .int .i64 0]) ∧ Below w.heap.size w w' := by
  have hr := Row.made w 96 #[.int .i64 0, .string r, .bool true]
  have h : FieldsAt (w.alloc (.cells #[.int .i64 0, .string r, .bool true] 96)) w.heap.size 0 [⟨0, r, true⟩] := by
    intro i f hf
    rw [hr.at, hr.at, hr.at]
    match i, hf with
    | 0, hf => simp at hf; subst hf; exact ⟨rfl, rfl, rfl⟩
    | (j + 1), hf => simp at hf
  have hfit : Fits [⟨0, r, true⟩] := by
    intro i f hf
    match i, hf with
    | 0, hf => simp at hf; subst hf; exact ⟨by simp [Fl.head, numOf]; omega, by simp [Fl.body, strOf]; omega⟩
    | (j + 1), hf => simp at hf
  have hl : layOf [⟨0, r, true⟩] = (Leb.enc r.size ++ r.data.toList, 0) := by
    have hb : allBytes [⟨0, r, true⟩] = Leb.enc r.size ++ r.data.toList := by simp [allBytes, Fl.bytes, Fl.head, Fl.body, numOf, strOf]
    unfold layOf
    rw [hb, if_neg (by simp [Fl.head, numOf]), if_neg (by rw [List.length_append, ← Lib.size_eq]; omega)]
  refine (lay_any (cap := 1) h (by simp) (by simp) hfit).mono ?_
  rintro e w' ⟨rfl, hb⟩
  rw [hl]
  exact ⟨rfl, ((Below.refl _ _).alloc (Nat.le_refl _) _).trans (hb.mono (by simp))⟩

set_option maxRecDepth 100000 in
theorem own_kept {w w' : World} {base t size n : Nat} {v : Value} {xs : List Value} (h : w.ownsRow base t size v n xs) (hb : Below w.heap.size w w') : w'.ownsRow base t size v n xs := by
  refine h.kept (gb_below hb none) ?_
  cases hv : v.ownBlock <;> simp

set_option maxRecDepth 100000 in
set_option maxHeartbeats 3200000 in
theorem lay_record (HC : CrcOk) {w : World} {base c d : Nat} {l : List UInt8} (r : ByteArray) (h : Laid w base c d l) (hd : base ≤ d) (hB : base ≤ w.heap.size) (hl : l.length + (Frm.one r.data.toList).length ≤ 65536) :
    Calls Try.prog 83 #[.string r, .pointer (some ⟨c, 0, none⟩)] w fun e w' => e = .returned (.tuple #[]) ∧ Below base w w' ∧ Laid w' base c d (l ++ Frm.one r.data.toList) := by
  obtain ⟨i0, hi, hz0, hz1, hz2⟩ := info_parts byteInfo
  have hone := Frm.one_len r.data.toList
  rw [← Lib.size_eq] at hone
  have hr : r.size ≤ 65536 := by omega
  have hlay := fun W => lay_string r (by omega) W
  have hfour := fun W => HC.four r W (by omega)
  have hz : (mk (Leb.enc r.size ++ r.data.toList)).size = (Leb.enc r.size).length + r.size := by rw [mk_len, List.length_append, ← Lib.size_eq]
  have hz4 : (mk (Frm.sumOf r.data.toList)).size = 4 := rfl
  have hfour2 : ∀ W, Calls Try.prog 61 #[.string r] W fun e w' => e = .returned (.string (mk (Frm.sumOf r.data.toList))) ∧ Below W.heap.size W w' := hfour
  have hcs : Hid (Lib.strCells (mk (Leb.enc r.size ++ r.data.toList)) = Lib.byteCells (Leb.enc r.size ++ r.data.toList)) := Lib.hid (by rw [Lib.strCells_eq, mk_data])
  have hall : Hid (l ++ (Leb.enc r.size ++ r.data.toList) ++ (mk (Frm.sumOf r.data.toList)).data.toList = l ++ Frm.one r.data.toList) := Lib.hid (by rw [mk_data, Frm.one, ← Lib.size_eq]; simp)
  have hel : (Leb.enc r.size ++ r.data.toList).length = (mk (Leb.enc r.size ++ r.data.toList)).size := (mk_len _).symm
  have e1 : l.length + (mk (Leb.enc r.size ++ r.data.toList)).size + 4 ≤ 65540 := by rw [hz]; omega
  have Hlay := Lib.hid hlay
  have Hfour := Lib.hid hfour2
  have Hel := Lib.hid hel
  clear hlay hfour hfour2 hone hr hz hl hel
  generalize Leb.enc r.size ++ r.data.toList = sl at *
  generalize hX : mk sl = x at *
  generalize mk (Frm.sumOf r.data.toList) = y at *
  generalize Frm.one r.data.toList = one at *
  have E1 := Lib.hid e1
  have Hz4 := Lib.hid hz4
  clear hX e1 hz4
  have hlaid : ∀ (W : World), Below w.heap.size w W → Laid W base c d l ∧ Below base w W := fun W hW => ⟨h.below hW, hW.mono hB⟩
  have HL := Lib.hid hlaid
  clear hlaid h
  go_enter Try.func83, Try.ntmps83
  go_wp2_with (first
    | (go_at_call 84; refine (field_t _ _).mono ?_; rintro e w1 ⟨rfl, hb1⟩)
    | (go_at_call 59; refine (Hlay.out _).mono ?_; rintro e w2 ⟨rfl, hb2⟩; obtain ⟨⟨r1, v, r2, own⟩, hbel⟩ := HL.out w2 (hb1.trans (hb2.mono hb1.size)); obtain ⟨A, cap, rfl⟩ := own_shape own; have c1 : w2.cell? ⟨c, 0, none⟩ = some (.pointer (some ⟨d, 0, none⟩)) := r1.at 0; have c2 : w2.cell? ⟨d, 0, none⟩ = some (.slice A l.length cap) := r2.at 0))
  have hz1' : base ≤ w2.heap.size := by have := hbel.size; omega
  have hn1 : l.length + x.size ≤ maxLen := by have := E1.out; unfold maxLen; omega
  have hn2 : l.length + x.size ≤ 140737488355328 := by have := E1.out; omega
  have hn3 : l.length + x.size + y.size ≤ maxLen := by have := E1.out; have := Hz4.out; unfold maxLen; omega
  have hn4 : l.length + x.size + y.size ≤ 140737488355328 := by have := E1.out; have := Hz4.out; omega
  have N1 := Lib.hid hn1
  have N2 := Lib.hid hn2
  have N3 := Lib.hid hn3
  have N4 := Lib.hid hn4
  clear hn1 hn2 hn3 hn4
  have ownd : w2.drew.ownsRow base 5 1 (.slice A l.length cap) l.length (Lib.byteCells l) := own
  have r1d := r1.behindDraw
  have r2d := r2.behindDraw
  go_region_law
    (first
      | (refine step_append_text (by rfl) _ _ _ _ (by rfl) base 5 i0 Try.underlying64 Try.underlying9 hi hz0 hz1 hz2 _ _ _ (by rfl) own4 y (by rfl) N3.out N4.out (Nat.le_trans hz1' (Nat.le_trans hg3.size hb4.size)) ?_
         intro v5 w5 own5 hg5
         obtain ⟨A5, cap5, rfl⟩ := own_shape own5
         have hsp5 := Spares.grown own4 hg5
         have hb5 : Below base w4 w5 := (Below.refl _ _).grown hg5 (Nat.le_trans hz1' (Nat.le_trans hg3.size hb4.size)) (fun k hk => own_from own4 k hk)
         have c5 : w5.cell? ⟨c, 0, none⟩ = some (.pointer (some ⟨d, 0, none⟩)) := (hsp5 c _ _ (by decide) q1).at 0
         have d5 : w5.cell? ⟨d, 0, none⟩ = some (.slice A l.length cap) := (hsp5 d _ _ (by decide) q2).at 0
         have f5 := (hsp5 d _ _ (by decide) q2).free 0)
      | (refine step_append_text (by rfl) _ _ _ _ (by rfl) base 5 i0 Try.underlying64 Try.underlying9 hi hz0 hz1 hz2 _ _ _ (by rfl) ownd x (by rfl) N1.out N2.out hz1' ?_
         intro v3 w3 own3 hg3
         obtain ⟨A3, cap3, rfl⟩ := own_shape own3
         have hsp3 := Spares.grown ownd hg3
         have hb3 : Below base w2 w3 := (Below.refl _ w2).drew.grown hg3 hz1' (fun k hk => own_from ownd k hk)
         have p1 := hsp3 c _ _ (by decide) r1d
         have p2 := hsp3 d _ _ (by decide) r2d
         have c3 : w3.cell? ⟨c, 0, none⟩ = some (.pointer (some ⟨d, 0, none⟩)) := p1.at 0
         have d3 : w3.cell? ⟨d, 0, none⟩ = some (.slice A l.length cap) := p2.at 0)
      | (go_simp
         go_at_call 61
         refine (Hfour.out _).mono ?_
         rintro e w4 ⟨rfl, hb4⟩
         have own4 := own_kept own3 hb4
         have q1 := p1.below hb4 p1.inHeap
         have q2 := p2.below hb4 p2.inHeap
         have c4 : w4.cell? ⟨c, 0, none⟩ = some (.pointer (some ⟨d, 0, none⟩)) := q1.at 0
         have d4 : w4.cell? ⟨d, 0, none⟩ = some (.slice A l.length cap) := q2.at 0))
  all_goals
    have own6 := own5
    rw [hcs.out, ← Hel.out] at own6
    have hb6 : Below base w w5 := ((hbel.trans hb3).trans (hb4.mono (Nat.le_trans hz1' hg3.size))).trans hb5
    obtain ⟨hB9, hL9, c9, d9⟩ := field_fin hb6 hd (hsp5 c _ _ (by decide) q1) (hsp5 d _ _ (by decide) q2) own6
    rw [hall.out] at hL9
    rw [Hel.out] at hB9 hL9
    have HB9 := Lib.hid hB9
    clear hb3 hsp3 c4 d4 own3 hg3 c3 d3 hbel own hB9
    go_end0
    exact ⟨rfl, HB9.out, hL9⟩

set_option maxRecDepth 100000 in
theorem frm_layer (d : Nat) (w : World) :
    Calls Try.prog 70 #[.pointer (some ⟨d, 0, none⟩)] w fun e w' =>
      e = .returned (.func (.func 83) #[] #[.pointer (some ⟨w.heap.size, 0, none⟩)]) ∧ w.alloc (.cells #[.pointer (some ⟨d, 0, none⟩)] 106) = w' := by
  go_enter Try.func70, Try.ntmps70
  go_wp2
  go_ret
  exact ⟨rfl, rfl⟩

/-- At the head of a round of Lay. -/
def FrmRel (w : World) (base c d : Nat) (l : List (List UInt8)) (k : Nat) (wr : World) : Prop := Below base w wr ∧ Laid wr base c d (Frm.all (l.take k))

set_option maxRecDepth 100000 in
set_option maxHeartbeats 1600000 in
theorem frm_lay (HC : CrcOk) {w : World} {F : Nat → Prop} {v : Value} {l : List (List UInt8)} (h : Cells w F v (texts l)) (hl : l.length ≤ 100000) (ht : ∀ t ∈ l, t.length ≤ 16777216) :
    Calls Try.prog 53 #[v] w fun e w' => e = .returned (.tuple (if (Frm.all l).length ≤ 65536 then #[.string (mk (Frm.all l)), .int .i64 0] else #[.string (mk []), .int .i64 4])) ∧ Below w.heap.size w w' := by
  have hsize := size_any h hl ht
  obtain ⟨A, cap, rfl, hcap, hat⟩ := h
  rw [texts_len] at hcap hat hsize ⊢
  have Hat := Lib.hid hat
  have hl' : (l.length : Int) ≤ 100000 := by omega
  by_cases hbig : (Frm.all l).length ≤ 65536
  · rw [if_pos hbig] at hsize
    have hb : decide (((Frm.all l).length : Int) > 65536) = false := by simp; omega
    have hb2 : ¬ (65536 : Int) < ((Frm.all l).length : Int) := by omega
    rw [if_pos hbig]
    have Hsize := Lib.hid hsize
    have Hbig := Lib.hid hbig
    clear hat hl ht hsize hbig
    go_enter Try.func53, Try.ntmps53
    go_wp2_with (first
      | (go_at_call 69; refine (Hsize.out).mono ?_; rintro e wo ⟨rfl, hbel⟩; have hz := hbel.size; have hstart : FrmRel w w.heap.size (wo.heap.size + 1) wo.heap.size l 0 ((wo.alloc (.cells #[.slice none 0 0] 64)).alloc (.cells #[.pointer (some ⟨wo.heap.size, 0, none⟩)] 106)) := ⟨(hbel.alloc hbel.size _).alloc (by simp; omega) _, by (have := Row.made (wo.alloc (.cells #[.slice none 0 0] 64)) 106 #[.pointer (some ⟨wo.heap.size, 0, none⟩)]; simpa using this), .slice none 0 0, (Row.made wo _ _).behindNew _, by (simpa [Frm.all, Lib.byteCells] using World.ownsRow_nil _ _ _ _)⟩)
      | (go_at_call 70; refine (frm_layer _ _).mono ?_; rintro e w1 ⟨rfl, rfl⟩))
    have Hstart := Lib.hid hstart
    clear hstart
    go_loopw [14] (fun i wx => ∃ j : Nat, j ≤ l.length ∧ i = .int .i64 j ∧ FrmRel w w.heap.size (wo.heap.size + 1) wo.heap.size l j wx) (fun i _ => l.length - (intOf i).toNat)
    case atStart => exact ⟨0, Nat.zero_le _, rfl, Hstart.out⟩
    case round =>
      obtain ⟨k, hk, rfl, hrel⟩ := hrel
      by_cases hlt : k < l.length
      · obtain ⟨b, o, rfl, -, hb, hc⟩ := Hat.out (by omega)
        obtain ⟨t, htk⟩ : ∃ t, l[k]? = some t := ⟨_, List.getElem?_eq_getElem hlt⟩
        have hce : wr.cell? ⟨b, o + k, none⟩ = some (.string (mk t)) := (hrel.1.cell (p := ⟨b, o + k, none⟩) hb).trans (hc k _ (texts_at htk))
        have hk0 : (0 : Int) ≤ (k : Int) := by omega
        have hk1 : (k : Int) < (l.length : Int) := by omega
        have hst := Frm.all_take l k t htk
        have hall := Frm.all_front l (k + 1)
        have hrec : Hid (Calls Try.prog 83 #[.string (mk t), .pointer (some ⟨wo.heap.size + 1, 0, none⟩)] wr fun e w' => e = .returned (.tuple #[]) ∧ FrmRel w w.heap.size (wo.heap.size + 1) wo.heap.size l (k + 1) w') := Lib.hid (by
          refine (lay_record HC (mk t) hrel.2 hz hrel.1.size (by rw [mk_data, ← List.length_append, ← hst]; have := Hbig.out; omega)).mono ?_
          rintro e w' ⟨h1, h2, h3⟩
          rw [mk_data, ← hst] at h3
          exact ⟨h1, hrel.1.trans h2, h3⟩)
        clear hst hall hc htk hrel
        generalize mk t = x at *
        go_wp2_with (go_at_call 83; refine (hrec.out).mono ?_; rintro e w1 ⟨rfl, hr1⟩)
        go_roundw
        case rel => exact ⟨k + 1, by omega, by go_num, hr1⟩
        case measure => simp [intOf]; omega
      · obtain rfl : k = l.length := by omega
        obtain ⟨hb2, _, v, r2, own⟩ := hrel
        have htext := run_text own
        have cd : wr.cell? ⟨wo.heap.size, 0, none⟩ = some v := r2.at 0
        rw [List.take_length] at htext
        clear own r2
        go_wp2
        go_ret2
        exact ⟨rfl, hb2⟩
  · rw [if_neg hbig] at hsize
    rw [if_neg hbig]
    have Hsize := Lib.hid hsize
    clear hat hl ht hsize hbig
    go_enter Try.func53, Try.ntmps53
    go_wp2_with (first
      | (go_at_call 69; refine (Hsize.out).mono ?_; rintro e wo ⟨rfl, hbel⟩))
    go_ret2
    exact ⟨rfl, hbel⟩
end Go.Proofs.Ytcgplonnhginiaa
