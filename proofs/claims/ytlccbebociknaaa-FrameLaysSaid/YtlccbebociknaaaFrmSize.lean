/- The package frame as it landed: how many bytes a record's length stands in, and Size. -/
import Derived.Test.YtlccbebociknaaaFrmOk
import Derived.Test.YtlccbebociknaaaLay
namespace Go.Proofs.Ytlccbebociknaaa
open Go.ChangeShapes Go.WideShapes Go.ChangeAt Go.RowKit Go.Deep

/-- One number, laid by leb. -/
theorem lay_number (n : Nat) (hn : n ≤ 65536) (w : World) :
    Calls Try.prog 29 #[.slice (some ⟨w.heap.size, 0, none⟩) 1 1] (w.alloc (.cells #[.int .i64 (n : Int), .string ⟨#[]⟩, .bool false] 54)) fun e w' =>
      e = .returned (.tuple #[.string (mk (Leb.enc n)), .int .i64 0]) ∧ Below w.heap.size w w' := by
  have hr := Row.made w 54 #[.int .i64 (n : Int), .string ⟨#[]⟩, .bool false]
  have h : FieldsAt (w.alloc (.cells #[.int .i64 (n : Int), .string ⟨#[]⟩, .bool false] 54)) w.heap.size 0 [⟨n, ⟨#[]⟩, false⟩] := by
    intro i f hf
    rw [hr.at, hr.at, hr.at]
    match i, hf with
    | 0, hf => simp at hf; subst hf; exact ⟨rfl, rfl, rfl⟩
    | (j + 1), hf => simp at hf
  have hfit : Fits [⟨n, ⟨#[]⟩, false⟩] := by
    intro i f hf
    match i, hf with
    | 0, hf => simp at hf; subst hf; exact ⟨by simp [Fl.head, numOf]; omega, by simp [Fl.body, strOf]; decide⟩
    | (j + 1), hf => simp at hf
  have hl : layOf [⟨n, ⟨#[]⟩, false⟩] = (Leb.enc n, 0) := by
    have hb : allBytes [⟨(n : Int), ⟨#[]⟩, false⟩] = Leb.enc n := by simp [allBytes, Fl.bytes, Fl.head, Fl.body, numOf, strOf]
    unfold layOf
    rw [hb, if_neg (by simp [Fl.head, numOf]), if_neg (by have := (Leb.enc_len n).2; omega)]
  refine (lay_any (cap := 1) h (by simp) (by simp) hfit).mono ?_
  rintro e w' ⟨rfl, hb⟩
  rw [hl]
  exact ⟨rfl, ((Below.refl _ _).alloc (Nat.le_refl _) _).trans (hb.mono (by simp))⟩

theorem length_bytes (r : ByteArray) (w : World) (h : r.size ≤ 65536) :
    Calls Try.prog 20 #[.string r] w fun e w' => e = .returned (.int .i64 ((Leb.enc r.size).length : Int)) ∧ Below w.heap.size w w' := by
  have hlay := fun W => lay_number r.size h W
  have hz : (mk (Leb.enc r.size)).size = (Leb.enc r.size).length := mk_len _
  have Hlay := Lib.hid hlay
  clear hlay h
  generalize hm : mk (Leb.enc r.size) = y at *
  rw [← hz]
  clear hz hm
  go_enter Try.func20, Try.ntmps20
  go_wp2_with (first
    | (go_at_call 33; refine (field_n _ _).mono ?_; rintro e w1 ⟨rfl, hb1⟩)
    | (go_at_call 29; refine (Hlay.out _).mono ?_; rintro e w3 ⟨rfl, hb3⟩))
  go_ret
  exact ⟨rfl, hb1.trans (hb3.mono hb1.size)⟩

namespace Frm
theorem all_split (l : List (List UInt8)) (k : Nat) : all l = all (l.take k) ++ all (l.drop k) := by
  unfold all
  rw [← List.flatMap_append, List.take_append_drop]
theorem all_front (l : List (List UInt8)) (k : Nat) : (all (l.take k)).length ≤ (all l).length := by
  rw [all_split l k, List.length_append]; omega
theorem all_take (l : List (List UInt8)) (k : Nat) (t : List UInt8) (h : l[k]? = some t) : all (l.take (k + 1)) = all (l.take k) ++ one t := by
  obtain ⟨hl, he⟩ := List.getElem?_eq_some_iff.1 h
  rw [List.take_succ_eq_append_getElem hl, he, all_snoc]
end Frm

set_option maxRecDepth 100000 in
set_option maxHeartbeats 1600000 in
theorem size_any {w : World} {F : Nat → Prop} {v : Value} {l : List (List UInt8)} (h : Cells w F v (texts l)) (hl : l.length ≤ 100000) (ht : ∀ t ∈ l, t.length ≤ 16777216) :
    Calls Try.prog 11 #[v] w fun e w' => e = .returned (.int .i64 (if (Frm.all l).length ≤ 65536 then ((Frm.all l).length : Int) else 65537)) ∧ Below w.heap.size w w' := by
  obtain ⟨A, cap, rfl, hcap, hat⟩ := h
  rw [texts_len] at hcap hat ⊢
  have Hat := Lib.hid hat
  have Ht := Lib.hid ht
  have hl' : (l.length : Int) ≤ 100000 := by omega
  obtain ⟨R, hR⟩ : ∃ R : Int, R = if (Frm.all l).length ≤ 65536 then ((Frm.all l).length : Int) else 65537 := ⟨_, rfl⟩
  rw [← hR]
  have HR := Lib.hid hR
  clear hat hl ht hR
  go_enter Try.func11, Try.ntmps11
  go_wp2_with fail
  go_loopw [3, 8] (fun n i wr => ∃ k : Nat, k ≤ l.length ∧ i = .int .i64 (k : Int) ∧ n = .int .i64 ((Frm.all (l.take k)).length : Int) ∧ (Frm.all (l.take k)).length ≤ 65560 ∧ Below w.heap.size w wr) (fun _ i _ => l.length - (intOf i).toNat)
  case atStart => exact ⟨0, Nat.zero_le _, rfl, rfl, by simp [Frm.all], Below.refl _ _⟩
  case round =>
    obtain ⟨k, hk, rfl, rfl, hle, hbel⟩ := hrel
    have Hbel := Lib.hid hbel
    by_cases hlt : k < l.length
    · obtain ⟨b, o, rfl, -, hb, hc⟩ := Hat.out (by omega)
      obtain ⟨t, htk⟩ : ∃ t, l[k]? = some t := ⟨_, List.getElem?_eq_getElem hlt⟩
      have hce : wr.cell? ⟨b, o + k, none⟩ = some (.string (mk t)) := (hbel.cell (p := ⟨b, o + k, none⟩) hb).trans (hc k _ (texts_at htk))
      have hk0 : (0 : Int) ≤ (k : Int) := by omega
      have hk1 : (k : Int) < (l.length : Int) := by omega
      have hsz : (mk t).size = t.length := mk_len t
      have ht24 : t.length ≤ 16777216 := Ht.out t (List.mem_of_getElem? htk)
      have hst := Frm.all_take l k t htk
      have hst2 : (Frm.all (l.take (k + 1))).length = (Frm.all (l.take k)).length + ((Leb.enc t.length).length + t.length + 4) := by rw [hst, List.length_append, Frm.one_len]
      have hall := Frm.all_front l (k + 1)
      have hen := (Leb.enc_len t.length).2
      obtain ⟨m, hm⟩ : ∃ m, m = (Frm.all (l.take k)).length := ⟨_, rfl⟩
      rw [← hm] at hle hst2 ⊢
      by_cases hbig : m + t.length ≤ 65536
      · have hlb := fun W => length_bytes (mk t) W (by rw [hsz]; omega)
        rw [hsz] at hlb
        have Hlb := Lib.hid hlb
        have hdec : decide ((65536 : Int) - (m : Int) < ((mk t).size : Int)) = false := by rw [hsz]; simp; omega
        have hn0 : (m : Int) ≤ 65560 := by omega
        have hsum : Hid ((m : Int) + (((Leb.enc t.length).length : Int) + ((mk t).size : Int) + 4) = ((Frm.all (l.take (k + 1))).length : Int))   := Lib.hid (by rw [hsz]; omega)
        have hle2 : Hid ((Frm.all (l.take (k + 1))).length ≤ 65560) := Lib.hid (by omega)
        have he9 : (((Leb.enc t.length).length : Nat) : Int) ≤ 9 := by omega
        have he0 : (0 : Int) ≤ (((Leb.enc t.length).length : Nat) : Int) := by omega
        have ht0 : ((mk t).size : Int) ≤ 65536 := by rw [hsz]; omega
        clear hlb hst hst2 hall hm hc htk hsz hbel hen hbig ht24
        generalize (Leb.enc t.length).length = q at *
        generalize hy : mk t = y at *
        go_wp2_with (go_at_call 20; refine (Hlb.out _).mono ?_; rintro e w1 ⟨rfl, hb1⟩)
        go_roundw
        case rel => exact ⟨k + 1, by omega, by go_num, by rw [← hsum.out], hle2.out, Hbel.out.trans (hb1.mono Hbel.out.size)⟩
        case measure => simp [intOf]; omega
      · have hdec : decide ((65536 : Int) - (m : Int) < ((mk t).size : Int)) = true := by rw [hsz]; simp; omega
        have hn0 : (m : Int) ≤ 65560 := by omega
        have hfin : Hid (R = 65537) := Lib.hid (HR.out.trans (if_neg (by omega)))
        clear hst hst2 hall hm hc htk hbel hen hbig ht24 hsz
        generalize hy : mk t = y at *
        go_wp2_with fail
        go_ret
        exact ⟨by rw [hfin.out]; rfl, Hbel.out⟩
    · obtain rfl : k = l.length := by omega
      rw [List.take_length] at hle ⊢
      have hfin : Hid (R = min ((Frm.all l).length : Int) 65537) := Lib.hid (by
        rw [HR.out]
        split <;> omega)
      clear HR
      have hn0 : ((Frm.all l).length : Int) ≤ 65560 := by omega
      generalize (Frm.all l).length = m at *
      clear hle hbel
      by_cases h5 : (m : Int) ≤ 65537
      · have hmin : min (m : Int) 65537 = m := by omega
        go_wp2_with fail
        go_ret
        exact ⟨by rw [hfin.out, hmin]; rfl, Hbel.out⟩
      · have hmin : min (m : Int) 65537 = 65537 := by omega
        go_wp2_with fail
        go_ret
        exact ⟨by rw [hfin.out, hmin]; rfl, Hbel.out⟩
end Go.Proofs.Ytlccbebociknaaa
