/- The law's own reading of a head. -/
import Derived.Test.YtcgplonnhginiaaCom33
import Derived.Test.YtcgplonnhginiaaCom4
import Derived.Test.YtcgplonnhginiaaCom9
import Derived.Test.YtcgplonnhginiaaCom10
import Derived.Deep.QuietTactic
import Derived.BigQuiet
set_option linter.unusedSimpArgs false
set_option linter.unusedVariables false
namespace Go.Proofs.Ytcgplonnhginiaa
open Go.RowKit Jnl

/-- What the law's head answers, of a sector of a disk of 6. -/
def HeadPost (l : List UInt8) (w : World) (e : Ending) (w' : World) : Prop :=
  ∃ (x y : Nat) (ok : Bool), e = .returned (.tuple #[.int .i64 (x : Int), .int .i64 (y : Int), .bool ok]) ∧ (ok = true → ∃ half, headAt 2 l = some (x, half, y)) ∧ (ok = false → headAt 2 l = none) ∧ Below w.heap.size w w'

set_option maxRecDepth 100000 in
theorem head_no {l : List UInt8} {w w' : World} (h : headAt 2 l = none) (hb : Below w.heap.size w w') : HeadPost l w (.returned (.tuple #[.int .i64 0, .int .i64 0, .bool false])) w' :=
  ⟨0, 0, false, rfl, fun e => (by cases e), fun _ => h, hb⟩

def R1 (l : List UInt8) := Leb.first (l.drop 7)
def R2 (l : List UInt8) := Leb.first (l.drop (7 + (R1 l).2.1))
def R3 (l : List UInt8) := Leb.first (l.drop (7 + (R1 l).2.1 + (R2 l).2.1))

set_option maxRecDepth 100000 in
theorem headAt_eq (l : List UInt8) : headAt 2 l = if l.take 7 = tag ∧ (R1 l).2.2 = 0 ∧ (R2 l).2.2 = 0 ∧ (R3 l).2.2 = 0 ∧ l = head (R1 l).1 (R2 l).1 (R3 l).1 ++ l.drop (head (R1 l).1 (R2 l).1 (R3 l).1).length ∧ (R2 l).1 ≤ 1 ∧ (R3 l).1 ≤ 64 * 2 then some ((R1 l).1, (R2 l).1, (R3 l).1) else none := rfl

set_option maxRecDepth 100000 in
theorem cut_from (s : ByteArray) (k : Nat) : s.extract k s.size = mk (s.data.toList.drop k) := bytes_ext (by
  rw [Lib.extract_data, mk_data, Lib.size_eq, ← List.length_drop, List.take_length])

set_option maxRecDepth 100000 in
theorem cut_to (s : ByteArray) (k : Nat) : s.extract 0 k = mk (s.data.toList.take k) := bytes_ext (by
  rw [Lib.extract_data, mk_data, List.drop_zero, Nat.sub_zero])

set_option maxRecDepth 100000 in
theorem text_eq (a b : List UInt8) : ((mk a).toList == (mk b).toList) = decide (a = b) := by
  rw [Lib.toList_data, Lib.toList_data, mk_data, mk_data]
  by_cases h : a = b
  · rw [decide_eq_true h, h]; exact beq_self_eq_true _
  · rw [decide_eq_false h]; exact beq_eq_false_iff_ne.2 h

set_option maxRecDepth 100000 in
theorem pre_iff (l h : List UInt8) : l.take h.length = h ↔ l = h ++ l.drop h.length := by
  constructor
  · intro e
    conv => lhs; rw [← List.take_append_drop h.length l, e]
  · intro e
    generalize l.drop h.length = r at e
    rw [e, List.take_left]

set_option maxRecDepth 100000 in
set_option maxHeartbeats 1600000 in
theorem law_head (s : ByteArray) (w : World) (hs : s.size = 64) : Calls Try.prog 27 #[.string s] w (HeadPost s.data.toList w) := by
  have hl : s.data.toList.length = 64 := by rw [← Lib.size_eq]; exact hs
  have hsz : ((s.size : Nat) : Int) = 64 := by rw [hs]; rfl
  have h7 : (7 : Int) ≤ (s.size : Int) := by omega
  have g1 := (Leb.first_fits (s.data.toList.drop 7)).2.1
  have g1' : (R1 s.data.toList).2.1 ≤ 57 := by show (Leb.first _).2.1 ≤ 57; rw [List.length_drop] at g1; omega
  have g2 := (Leb.first_fits (s.data.toList.drop (7 + (R1 s.data.toList).2.1))).2.1
  have g2' : 7 + (R1 s.data.toList).2.1 + (R2 s.data.toList).2.1 ≤ 64 := by show 7 + (R1 s.data.toList).2.1 + (Leb.first _).2.1 ≤ 64; rw [List.length_drop] at g2; omega
  have F1 : Hid (∀ W, Calls Try.prog 46 #[.string (mk (s.data.toList.drop 7))] W (TripleIs (R1 s.data.toList).1 (R1 s.data.toList).2.1 (R1 s.data.toList).2.2 W)) := Lib.hid (fun W => by
    have := ref_first (mk (s.data.toList.drop 7)) W (by rw [mk_len, List.length_drop]; omega)
    rw [mk_data] at this
    exact this)
  have F2 : Hid (∀ W, Calls Try.prog 46 #[.string (mk (s.data.toList.drop (7 + (R1 s.data.toList).2.1)))] W (TripleIs (R2 s.data.toList).1 (R2 s.data.toList).2.1 (R2 s.data.toList).2.2 W)) := Lib.hid (fun W => by
    have := ref_first (mk (s.data.toList.drop (7 + (R1 s.data.toList).2.1))) W (by rw [mk_len, List.length_drop]; omega)
    rw [mk_data] at this
    exact this)
  have F3 : Hid (∀ W, Calls Try.prog 46 #[.string (mk (s.data.toList.drop (7 + (R1 s.data.toList).2.1 + (R2 s.data.toList).2.1)))] W (TripleIs (R3 s.data.toList).1 (R3 s.data.toList).2.1 (R3 s.data.toList).2.2 W)) := Lib.hid (fun W => by
    have := ref_first (mk (s.data.toList.drop (7 + (R1 s.data.toList).2.1 + (R2 s.data.toList).2.1))) W (by rw [mk_len, List.length_drop]; omega)
    rw [mk_data] at this
    exact this)
  have b1 := (Leb.first_fits (s.data.toList.drop 7)).1
  have b2 := (Leb.first_fits (s.data.toList.drop (7 + (R1 s.data.toList).2.1))).1
  have b3 := (Leb.first_fits (s.data.toList.drop (7 + (R1 s.data.toList).2.1 + (R2 s.data.toList).2.1))).1
  have HH : Hid (∀ W, Calls Try.prog 24 #[.int .i64 ((R1 s.data.toList).1 : Int), .int .i64 ((R2 s.data.toList).1 : Int), .int .i64 ((R3 s.data.toList).1 : Int)] W fun e w' => e = .returned (.string (mk (head (R1 s.data.toList).1 (R2 s.data.toList).1 (R3 s.data.toList).1))) ∧ Below W.heap.size W w') := Lib.hid (fun W => ref_head _ _ _ W b1 b2 b3)
  have He := Lib.hid (headAt_eq s.data.toList)
  have Hc1 := Lib.hid (cut_from s 7)
  have Hc2 := Lib.hid (cut_from s (7 + (R1 s.data.toList).2.1))
  have Hc3 := Lib.hid (cut_from s (7 + (R1 s.data.toList).2.1 + (R2 s.data.toList).2.1))
  have hlh := head_len (R1 s.data.toList).1 (R2 s.data.toList).1 (R3 s.data.toList).1
  have Hlh : Hid ((mk (head (R1 s.data.toList).1 (R2 s.data.toList).1 (R3 s.data.toList).1)).size ≤ 38) := Lib.hid (by rw [mk_len]; exact hlh)
  have Hcut : Hid (s.extract 0 (mk (head (R1 s.data.toList).1 (R2 s.data.toList).1 (R3 s.data.toList).1)).size = mk (s.data.toList.take (head (R1 s.data.toList).1 (R2 s.data.toList).1 (R3 s.data.toList).1).length)) := Lib.hid (by rw [cut_to, mk_len])
  have Hpre : Hid (s.data.toList.take (head (R1 s.data.toList).1 (R2 s.data.toList).1 (R3 s.data.toList).1).length = head (R1 s.data.toList).1 (R2 s.data.toList).1 (R3 s.data.toList).1 ↔ s.data.toList = head (R1 s.data.toList).1 (R2 s.data.toList).1 (R3 s.data.toList).1 ++ s.data.toList.drop (head (R1 s.data.toList).1 (R2 s.data.toList).1 (R3 s.data.toList).1).length) := Lib.hid (pre_iff _ _)
  have Hteq := Lib.hid (text_eq (s.data.toList.take (head (R1 s.data.toList).1 (R2 s.data.toList).1 (R3 s.data.toList).1).length) (head (R1 s.data.toList).1 (R2 s.data.toList).1 (R3 s.data.toList).1))
  have hct := cut_to s 7
  have e7 := text_eq (s.data.toList.take 7) tag
  have Ht7 : Hid (((s.extract 0 7).toList == [76, 73, 71, 72, 84, 69, 82]) = decide (s.data.toList.take 7 = tag)) := Lib.hid (by
    rw [hct, ← e7, Lib.toList_data (mk tag), mk_data]
    rfl)
  clear hct e7 g1 g2 hlh
  generalize head (R1 s.data.toList).1 (R2 s.data.toList).1 (R3 s.data.toList).1 = hd at *
  generalize R1 s.data.toList = r1 at *
  generalize R2 s.data.toList = r2 at *
  generalize R3 s.data.toList = r3 at *
  obtain ⟨q1, k1, x1⟩ := r1
  obtain ⟨q2, k2, x2⟩ := r2
  obtain ⟨q3, k3, x3⟩ := r3
  simp only at *
  have hbl := Lib.hid (Below.refl w.heap.size w)
  by_cases t7 : s.data.toList.take 7 = tag
  · have a7 : ((s.extract 0 7).toList == [76, 73, 71, 72, 84, 69, 82]) = true := by rw [Ht7.out]; exact decide_eq_true t7
    have n7 : ((s.extract 0 7).toList != [76, 73, 71, 72, 84, 69, 82]) = false := by rw [bne, a7]; rfl
    have T7 := Lib.hid t7
    clear t7
    have hb1 : (k1 : Int) ≤ 57 := by omega
    have hb2 : (7 : Int) + k1 + k2 ≤ 64 := by omega
    have hb3 : (7 : Int) + k1 ≤ (s.size : Int) := by omega
    have hb4 : (7 : Int) + k1 + k2 ≤ (s.size : Int) := by omega
    by_cases e1 : x1 = 0
    · subst e1
      by_cases e2 : x2 = 0
      · subst e2
        by_cases e3 : x3 = 0 ∧ q2 ≤ 1 ∧ q3 ≤ 128
        · obtain ⟨rfl, e4, e5⟩ := e3
          have c4 : decide ((q2 : Int) > 1) = false := by simp; omega
          have c5 : decide ((q3 : Int) > 128) = false := by simp; omega
          have c6 : decide (((mk hd).size : Int) ≤ 64) = true := by have := Hlh.out; simp; omega
          have c7 : ((mk hd).size : Int) ≤ (s.size : Int) := by have := Hlh.out; omega
          have fin : Hid (∀ w', Below w.heap.size w w' → HeadPost s.data.toList w (.returned (.tuple #[.int .i64 (q1 : Int), .int .i64 (q3 : Int), .bool (decide (s.data.toList.take hd.length = hd))])) w') := Lib.hid (fun w' hb => by
            refine ⟨q1, q3, _, rfl, fun h => ⟨q2, ?_⟩, fun h => ?_, hb⟩
            · have hp := Hpre.out.1 (of_decide_eq_true h)
              rw [He.out, if_pos ⟨T7.out, rfl, rfl, rfl, hp, e4, e5⟩]
            · rw [He.out, if_neg (fun hc => (of_decide_eq_false h) (Hpre.out.2 hc.2.2.2.2.1))])
          clear hsz hl hs e4 e5
          go_enter Try.func27, Try.ntmps27
          go_wp2_with fail
          rw [Hc1.out]
          refine (F1.out w).mono ?_
          rintro e w' ⟨rfl, rfl⟩
          go_wp2_with fail
          rw [Hc2.out]
          refine (F2.out w).mono ?_
          rintro e w' ⟨rfl, rfl⟩
          go_wp2_with fail
          rw [Hc3.out]
          refine (F3.out w).mono ?_
          rintro e w' ⟨rfl, rfl⟩
          go_wp2_with fail
          refine (HH.out w).mono ?_
          rintro e w4 ⟨rfl, h4⟩
          have H4 := Lib.hid h4
          clear h4
          have hq : ((s.extract 0 (mk hd).size).toList == (mk hd).toList) = decide (s.data.toList.take hd.length = hd) := by rw [Hcut.out]; exact Hteq.out
          have fin2 := fun n => fin.out (w4.drewN n) ⟨H4.out.os, H4.out.tape, H4.out.output, H4.out.size, H4.out.block⟩
          have Fin2 := Lib.hid fin2
          clear fin2
          generalize decide (s.data.toList.take hd.length = hd) = B at *
          go_wp2_with fail
          go_quiet (fail)
          go_wp2_with fail
          go_ret3
          exact Fin2.out _
        · have hno : headAt 2 s.data.toList = none := by rw [He.out, if_neg (fun h => e3 ⟨h.2.2.2.1, h.2.2.2.2.2.1, h.2.2.2.2.2.2⟩)]
          have Hno := Lib.hid hno
          clear hno
          by_cases f3 : x3 = 0
          · subst f3
            by_cases f2 : q2 ≤ 1
            · have c4 : decide ((q2 : Int) > 1) = false := by simp; omega
              have c5 : decide ((q3 : Int) > 128) = true := by simp; omega
              clear hsz hl hs e3 f2
              go_enter Try.func27, Try.ntmps27
              go_wp2_with fail
              rw [Hc1.out]
              refine (F1.out w).mono ?_
              rintro e w' ⟨rfl, rfl⟩
              go_wp2_with fail
              rw [Hc2.out]
              refine (F2.out w).mono ?_
              rintro e w' ⟨rfl, rfl⟩
              go_wp2_with fail
              rw [Hc3.out]
              refine (F3.out w).mono ?_
              rintro e w' ⟨rfl, rfl⟩
              go_wp2_with fail
              go_ret3
              exact head_no Hno.out hbl.out
            · have c4 : decide ((q2 : Int) > 1) = true := by simp; omega
              clear hsz hl hs e3 f2
              go_enter Try.func27, Try.ntmps27
              go_wp2_with fail
              rw [Hc1.out]
              refine (F1.out w).mono ?_
              rintro e w' ⟨rfl, rfl⟩
              go_wp2_with fail
              rw [Hc2.out]
              refine (F2.out w).mono ?_
              rintro e w' ⟨rfl, rfl⟩
              go_wp2_with fail
              rw [Hc3.out]
              refine (F3.out w).mono ?_
              rintro e w' ⟨rfl, rfl⟩
              go_wp2_with fail
              go_ret3
              exact head_no Hno.out hbl.out
          · have c3 : (x3 != 0) = true := by simpa using f3
            clear hsz hl hs e3 f3
            go_enter Try.func27, Try.ntmps27
            go_wp2_with fail
            rw [Hc1.out]
            refine (F1.out w).mono ?_
            rintro e w' ⟨rfl, rfl⟩
            go_wp2_with fail
            rw [Hc2.out]
            refine (F2.out w).mono ?_
            rintro e w' ⟨rfl, rfl⟩
            go_wp2_with fail
            rw [Hc3.out]
            refine (F3.out w).mono ?_
            rintro e w' ⟨rfl, rfl⟩
            go_wp2_with fail
            go_ret3
            exact head_no Hno.out hbl.out
      · have hno : headAt 2 s.data.toList = none := by rw [He.out, if_neg (fun h => e2 h.2.2.1)]
        have Hno := Lib.hid hno
        have c2 : (x2 != 0) = true := by simpa using e2
        clear hno hsz hl hs e2
        go_enter Try.func27, Try.ntmps27
        go_wp2_with fail
        rw [Hc1.out]
        refine (F1.out w).mono ?_
        rintro e w' ⟨rfl, rfl⟩
        go_wp2_with fail
        rw [Hc2.out]
        refine (F2.out w).mono ?_
        rintro e w' ⟨rfl, rfl⟩
        go_wp2_with fail
        go_ret3
        exact head_no Hno.out hbl.out
    · have hno : headAt 2 s.data.toList = none := by rw [He.out, if_neg (fun h => e1 h.2.1)]
      have Hno := Lib.hid hno
      have c2 : (x1 != 0) = true := by simpa using e1
      clear hno hsz hl hs e1
      go_enter Try.func27, Try.ntmps27
      go_wp2_with fail
      rw [Hc1.out]
      refine (F1.out w).mono ?_
      rintro e w' ⟨rfl, rfl⟩
      go_wp2_with fail
      go_ret3
      exact head_no Hno.out hbl.out
  · have a7 : ((s.extract 0 7).toList == [76, 73, 71, 72, 84, 69, 82]) = false := by rw [Ht7.out]; exact decide_eq_false t7
    have n7 : ((s.extract 0 7).toList != [76, 73, 71, 72, 84, 69, 82]) = true := by rw [bne, a7]; rfl
    have hno : headAt 2 s.data.toList = none := by rw [He.out, if_neg (fun h => t7 h.1)]
    have Hno := Lib.hid hno
    clear hno t7 hsz hl hs
    go_enter Try.func27, Try.ntmps27
    go_wp2_with fail
    go_ret3
    exact head_no Hno.out hbl.out
end Go.Proofs.Ytcgplonnhginiaa
/- A journal that is written on a disk that never goes down: what each call leaves (for JournalLays). -/
set_option linter.unusedSimpArgs false
set_option linter.unusedVariables false
namespace Go.Proofs.Ytcgplonnhginiaa
open Go.RowKit Dsk Jnl

set_option maxRecDepth 100000 in
theorem append_is {n : Nat} {d : D} {j : J} {l a : List (List UInt8)} (H : Live n d j l) (hc : Calm d) (hn : 4 ≤ n) (hn2 : n ≤ 4096) (hseq : j.seq < 9223372036854775807) (ha : (Frm.all a).length ≤ 65536) (hs : ∀ t ∈ a, t.length < 9223372036854775808)
    (hf : j.bytes.length + (Frm.all a).length ≤ 64 * hof n) :
    (Jnl.append n d j a).1 = 0 ∧ Live n (Jnl.append n d j a).2.1 (Jnl.append n d j a).2.2 (l ++ a) ∧ (Jnl.append n d j a).2.2 = ⟨j.seq + (if a = [] then 0 else 1), j.half, j.bytes ++ Frm.all a, false⟩ := by
  obtain ⟨r1, r2, -⟩ := append_room H hc hn hn2 hseq ha hs hf
  refine ⟨r1, r2, ?_⟩
  have hok := H.ok
  unfold Jnl.append at r1 ⊢
  rw [if_neg (by rw [hok]; decide), if_neg (by omega), if_neg (by omega), if_neg (by omega)] at r1 ⊢
  by_cases he : a = []
  · rw [if_pos he, if_pos he]
    subst he
    obtain ⟨s, h, b, k⟩ := j
    simp only at hok
    subst hok
    show (⟨s, h, b, false⟩ : J) = ⟨s, h, b ++ [], false⟩
    rw [List.append_nil]
  · rw [if_neg he] at r1 ⊢
    rw [if_neg he]
    unfold lays at r1 ⊢
    simp only at r1 ⊢
    rw [if_pos r1]

set_option maxRecDepth 100000 in
theorem append_full {n : Nat} {d : D} {j : J} {l a : List (List UInt8)} (H : Live n d j l) (hseq : j.seq < 9223372036854775807) (ha : (Frm.all a).length ≤ 65536) (hf : 64 * hof n < j.bytes.length + (Frm.all a).length) : Jnl.append n d j a = (10, d, j) := by
  unfold Jnl.append
  rw [if_neg (by rw [H.ok]; decide), if_neg (by omega), if_neg (by omega), if_pos hf]

set_option maxRecDepth 100000 in
theorem all_none {a : List (List UInt8)} : Frm.all a = [] ↔ a = [] := by
  constructor
  · intro h
    cases a with
    | nil => rfl
    | cons t a =>
      have h1 := Frm.one_pos t
      rw [Frm.all_cons] at h
      have := congrArg List.length h
      rw [List.length_append, List.length_nil] at this
      omega
  · rintro rfl; rfl

section
variable {At : World → (Nat → Prop) → Value → D → Prop} {Own : World → (Nat → Prop) → Value → Value → Nat → J → Prop} {W w w' : World} {dv jv lv : Value} {n k : Nat} {d : D} {j : J} {l a : List (List UInt8)}

/-- The disk and the journal behind k calls. -/
structure LaidJ (At : World → (Nat → Prop) → Value → D → Prop) (Own : World → (Nat → Prop) → Value → Value → Nat → J → Prop) (W : World) (dv jv : Value) (n k : Nat) (d : D) (j : J) (l : List (List UInt8)) (w : World) : Prop where
  jw : Jw At Own W (fun i => i < W.heap.size) dv jv n d j w
  live : Live n d j l
  calm : Calm d
  fine : d.Fine (3 + k * 23)
  half : j.half = 0
  seq : j.seq ≤ k + 1
  four : 4 ≤ n
  few : n ≤ 43

set_option maxRecDepth 100000 in
theorem Jw.old (U : DiskUse At) (H : JournalOk At Own) {Z : Nat → Prop} (h : Jw At Own W Z dv jv n d j w) : Jw At Own W (fun i => i < W.heap.size) dv jv n d j w := by
  obtain ⟨⟨F, h1, h4⟩, h6, h7⟩ := h
  exact ⟨⟨F, h1, fun i hi => ⟨(h4 i hi).1, fun hlt => by have := (h4 i hi).1; omega⟩⟩, h6, fun i hi => Nat.lt_of_lt_of_le hi h6.size⟩

set_option maxRecDepth 100000 in
theorem LaidJ.next (h : LaidJ At Own W dv jv n k d j l w) : LaidJ At Own W dv jv n (k + 1) d j l w := ⟨h.jw, h.live, h.calm, h.fine.mono (by omega), h.half, by have := h.seq; omega, h.four, h.few⟩

set_option maxRecDepth 100000 in
theorem LaidJ.below (U : DiskUse At) (H : JournalOk At Own) (h : LaidJ At Own W dv jv n k d j l w) (b : Below w.heap.size w w') : LaidJ At Own W dv jv n k d j l w' := ⟨(h.jw.below U H b).1, h.live, h.calm, h.fine, h.half, h.seq, h.four, h.few⟩

set_option maxRecDepth 100000 in
theorem LaidJ.hof (h : LaidJ At Own W dv jv n k d j l w) : 1 ≤ hof n ∧ hof n ≤ 20 := by
  have h1 := h.four
  have h2 := h.few
  unfold Jnl.hof
  omega

set_option maxRecDepth 100000 in
theorem LaidJ.sound (h : LaidJ At Own W dv jv n k d j l w) : Sound n d (3 + k * 23) := live_sound h.live h.fine h.four

structure SlightAll (a : List (List UInt8)) : Prop where
  each : ∀ t ∈ a, t.length ≤ 200
  few : a.length ≤ 12

set_option maxRecDepth 100000 in
theorem SlightAll.all (h : SlightAll a) : (Frm.all a).length ≤ 2556 := by
  have := small_all h.few h.each
  omega

set_option maxRecDepth 100000 in
theorem LaidJ.append (U : DiskUse At) (H : JournalOk At Own) (h : LaidJ At Own W dv jv n k d j l w) (hk : k ≤ 30) (hc : Cells W (fun i => i < W.heap.size) lv (texts a)) (hs : SlightAll a) (hf : j.bytes.length + (Frm.all a).length ≤ 64 * Jnl.hof n) :
    Calls Try.prog 14 #[jv, lv] w fun e w' => e = .returned (.int .i64 0) ∧ ∃ d', LaidJ At Own W dv jv n (k + 1) d' ⟨j.seq + (if a = [] then 0 else 1), 0, j.bytes ++ Frm.all a, false⟩ (l ++ a) w' := by
  have hall := hs.all
  have h20 := h.hof
  obtain ⟨r1, r2, r3⟩ := append_is h.live h.calm h.four (by have := h.few; omega) (by have := h.seq; omega) (by omega) (fun t ht => by have := hs.each t ht; omega) hf
  have hcells := hc.below h.jw.bel
  refine (h.jw.call (fun F hF hz => H.append hF h.sound (by omega) (Or.inr ⟨h.live.toHeld, by omega⟩) hcells (fun k hk hf => hz k hf hk) (by have := hs.few; omega) (fun t ht => by have := hs.each t ht; omega))).mono ?_
  rintro e w' ⟨rfl, k1, -⟩
  rw [r3, h.half] at k1 r2
  exact ⟨by rw [r1], (Jnl.append n d j a).2.1, k1, r2, calm_append h.calm, (append_fine h.fine).mono (by omega), rfl, by show j.seq + _ ≤ _; have := h.seq; split <;> omega, h.four, h.few⟩

set_option maxRecDepth 100000 in
theorem LaidJ.full (U : DiskUse At) (H : JournalOk At Own) (h : LaidJ At Own W dv jv n k d j l w) (hk : k ≤ 30) (hc : Cells W (fun i => i < W.heap.size) lv (texts a)) (hs : SlightAll a) (hf : 64 * Jnl.hof n < j.bytes.length + (Frm.all a).length) :
    Calls Try.prog 14 #[jv, lv] w fun e w' => e = .returned (.int .i64 10) ∧ LaidJ At Own W dv jv n (k + 1) d j l w' := by
  have hall := hs.all
  have h20 := h.hof
  have r := append_full h.live (by have := h.seq; omega) (by omega) hf
  have hcells := hc.below h.jw.bel
  have hcl := h.jw.call (fun F hF hz => H.append hF h.sound (by omega) (Or.inr ⟨h.live.toHeld, by omega⟩) hcells (fun k hk hf => hz k hf hk) (by have := hs.few; omega) (fun t ht => by have := hs.each t ht; omega))
  rw [r] at hcl
  refine hcl.mono ?_
  rintro e w' ⟨rfl, k1, -⟩
  exact ⟨rfl, k1, h.live, h.calm, h.fine.mono (by omega), h.half, by have := h.seq; omega, h.four, h.few⟩

set_option maxRecDepth 100000 in
theorem LaidJ.askSeq (H : JournalOk At Own) (h : LaidJ At Own W dv jv n k d j l w) : Calls Try.prog 19 #[jv] w fun e w' => e = .returned (.int .i64 (j.seq : Int)) ∧ LaidJ At Own W dv jv n k d j l w' := by
  refine (h.jw.call (fun F hF hz => H.seq hF)).mono ?_
  rintro e w' ⟨rfl, k1, -⟩
  exact ⟨rfl, k1, h.live, h.calm, h.fine, h.half, h.seq, h.four, h.few⟩

set_option maxRecDepth 100000 in
theorem LaidJ.askUsed (H : JournalOk At Own) (h : LaidJ At Own W dv jv n k d j l w) : Calls Try.prog 20 #[jv] w fun e w' => e = .returned (.int .i64 (j.bytes.length : Int)) ∧ LaidJ At Own W dv jv n k d j l w' := by
  refine (h.jw.call (fun F hF hz => H.used hF)).mono ?_
  rintro e w' ⟨rfl, k1, -⟩
  exact ⟨rfl, k1, h.live, h.calm, h.fine, h.half, h.seq, h.four, h.few⟩

set_option maxRecDepth 100000 in
theorem LaidJ.askRoom (H : JournalOk At Own) (h : LaidJ At Own W dv jv n k d j l w) : Calls Try.prog 21 #[jv] w fun e w' => e = .returned (.int .i64 ((64 * Jnl.hof n : Nat) - (j.bytes.length : Int))) ∧ LaidJ At Own W dv jv n k d j l w' := by
  refine (h.jw.call (fun F hF hz => H.room hF h.live.shape.len)).mono ?_
  rintro e w' ⟨rfl, k1, -⟩
  exact ⟨rfl, k1, h.live, h.calm, h.fine, h.half, h.seq, h.four, h.few⟩

set_option maxRecDepth 100000 in
/-- A sector that is read. -/
theorem LaidJ.read (U : DiskUse At) (H : JournalOk At Own) (h : LaidJ At Own W dv jv n k d j l w) (hk : k ≤ 30) {i : Nat} (hi : i < n) : Calls Try.prog 22 #[dv, .int .i64 (i : Int)] w fun e w' => e = .returned (.tuple #[.string (Jnl.now d i), .int .i64 0]) ∧ LaidJ At Own W dv jv n k d j l w' := by
  have hd : d.read (i : Int) = (Jnl.now d i, 0) := by
    unfold D.read
    rw [if_neg (by rw [h.calm.1]; decide), if_neg (by rw [h.live.shape.len]; omega)]
    rfl
  have hn := h.few
  have hcl := h.jw.call (fun F hF hz => hF.disk H (fun F1 h1 => U.read h1 h.fine (by omega) (i : Int) (by omega) (by omega)))
  rw [hd] at hcl
  refine hcl.mono ?_
  rintro e w' ⟨rfl, k1, -⟩
  exact ⟨rfl, k1, h.live, h.calm, h.fine, h.half, h.seq, h.four, h.few⟩

set_option maxRecDepth 100000 in
/-- What stands there. -/
theorem laid_stands (h : LaidJ At Own W dv jv n k d j l w) : Jnl.now d (j.seq % 2) = fill (mk (head j.seq 0 j.bytes.length)) := by
  have := h.live.now.stands
  rw [h.half] at this
  exact this

set_option maxRecDepth 100000 in
theorem laid_held (h : LaidJ At Own W dv jv n k d j l w) : (halfB (Jnl.now d) 2 (Jnl.hof n)).length = 64 * Jnl.hof n ∧ (halfB (Jnl.now d) 2 (Jnl.hof n)).take j.bytes.length = j.bytes := by
  have h4 := h.four
  have hn := hof_fits h4
  have hf := h.live.now.full
  have hl := h.live.now.held
  rw [h.half, Nat.zero_mul, Nat.add_zero] at hl
  exact ⟨(halfB_at _ 2 _ (fun i hi => hf _ (by omega))).1, holds_take hl h.live.fits (fun i hi => hf _ (by omega))⟩
end
end Go.Proofs.Ytcgplonnhginiaa
