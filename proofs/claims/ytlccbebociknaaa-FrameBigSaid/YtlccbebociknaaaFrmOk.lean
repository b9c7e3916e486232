/- What the package frame is to answer (FrameOk); two lists that are one; lists that are not far too long; a list that came in. -/
import Derived.Test.YtlccbebociknaaaFrmRef3
import Derived.Test.YtlccbebociknaaaTexts
import Derived.Test.YtlccbebociknaaaFrame
import Derived.Deep.Slices
namespace Go.Proofs.Ytlccbebociknaaa
open Go.ChangeShapes Go.WideShapes Go.ChangeAt Go.RowKit Go.Deep

/-- What the package is to answer. -/
structure FrameOk : Prop where
  lay : ∀ {w : World} {F : Nat → Prop} {v : Value} {l : List (List UInt8)}, Cells w F v (texts l) → l.length ≤ 100000 → (∀ t ∈ l, t.length ≤ 16777216) →
    Calls Try.prog 9 #[v] w fun e w' => e = .returned (.tuple (if (Frm.all l).length ≤ 65536 then #[.string (mk (Frm.all l)), .int .i64 0] else #[.string (mk []), .int .i64 4])) ∧ Below w.heap.size w w'
  size : ∀ {w : World} {F : Nat → Prop} {v : Value} {l : List (List UInt8)}, Cells w F v (texts l) → l.length ≤ 100000 → (∀ t ∈ l, t.length ≤ 16777216) →
    Calls Try.prog 11 #[v] w fun e w' => e = .returned (.int .i64 (if (Frm.all l).length ≤ 65536 then ((Frm.all l).length : Int) else 65537)) ∧ Below w.heap.size w w'
  first : ∀ (s : ByteArray) (w : World), s.size ≤ 65536 → Calls Try.prog 12 #[.string s] w (FirstIs (Frm.first s.data.toList).1 (Frm.first s.data.toList).2.1 (Frm.first s.data.toList).2.2 w)
  read : ∀ (s : ByteArray) (w : World), s.size ≤ 65536 →
    Calls Try.prog 14 #[.string s] w fun e w' => ∃ v, e = .returned (.tuple #[v, .int .i64 (Frm.read s.data.toList).2]) ∧ Cells w' (NewIn w w') v (texts (Frm.read s.data.toList).1) ∧ Below w.heap.size w w'

/-- Records that are not far too long. -/
def Light (l : List (List UInt8)) : Prop := (∀ t ∈ l, t.length ≤ 300) ∧ l.length ≤ 40
instance (l : List (List UInt8)) : Decidable (Light l) := inferInstanceAs (Decidable (_ ∧ _))

set_option maxRecDepth 100000 in
set_option maxHeartbeats 800000 in
theorem light_any {w : World} {F : Nat → Prop} {v : Value} {l : List (List UInt8)} (h : Cells w F v (texts l)) (hl : l.length ≤ 9223372036854775807) :
    Calls Try.prog 7 #[v] w fun e w' => e = .returned (.bool (decide (Light l))) ∧ w' = w := by
  obtain ⟨A, cap, rfl, hcap, hat⟩ := h
  rw [texts_len] at hcap hat ⊢
  have Hat := Lib.hid hat
  have hl' : (l.length : Int) ≤ 9223372036854775807 := by omega
  clear hat hl
  go_enter Try.func7, Try.ntmps7
  go_wp2_with fail
  go_loopw [3] (fun i wr => ∃ k : Nat, k ≤ l.length ∧ i = .int .i64 (k : Int) ∧ (∀ t ∈ l.take k, t.length ≤ 300) ∧ wr = w) (fun i _ => l.length - (intOf i).toNat)
  case atStart => exact ⟨0, Nat.zero_le _, rfl, by simp, rfl⟩
  case round =>
    obtain ⟨k, hk, rfl, hall, rfl⟩ := hrel
    have Hall := Lib.hid hall
    clear hall
    by_cases hlt : k < l.length
    · obtain ⟨b, o, rfl, -, hb, hc⟩ := Hat.out (by omega)
      obtain ⟨t, ht⟩ : ∃ t, l[k]? = some t := ⟨_, List.getElem?_eq_getElem hlt⟩
      have hce := hc k _ (texts_at ht)
      have hk0 : (0 : Int) ≤ (k : Int) := by omega
      have hk1 : (k : Int) < (l.length : Int) := by omega
      have Ht := Lib.hid ht
      have hsz : (mk t).size = t.length := mk_len t
      by_cases h3 : t.length ≤ 300
      · have hb3 : decide (300 < ((mk t).size : Int)) = false := by rw [hsz]; simp; omega
        have hb4 : ¬ (300 < ((mk t).size : Int)) := by rw [hsz]; omega
        have hb5 : ¬ (300 < (mk t).size) := by rw [hsz]; omega
        have H3 := Lib.hid h3
        clear h3 ht hc hsz
        generalize mk t = x at *
        go_wp2_with fail
        refine ⟨⟨k + 1, by omega, rfl, ?_, by first | rfl | trivial⟩, ?_⟩
        · intro y hy
          obtain ⟨hil, he⟩ := List.getElem?_eq_some_iff.1 Ht.out
          rw [List.take_succ_eq_append_getElem hil, List.mem_append] at hy
          rcases hy with hy | hy
          · exact Hall.out y hy
          · simp at hy
            rw [hy, he]; exact H3.out
        · show l.length - ((k : Int) + 1).toNat < l.length - (k : Int).toNat
          omega
      · have hb3 : decide (300 < ((mk t).size : Int)) = true := by rw [hsz]; simp; omega
        have hb4 : (300 < ((mk t).size : Int)) := by rw [hsz]; omega
        have hb5 : (300 < (mk t).size) := by rw [hsz]; omega
        have hd : Hid (decide (Light l) = false) := Lib.hid (decide_eq_false (fun e => h3 (e.1 t (List.mem_of_getElem? ht))))
        clear h3 ht hc hsz
        generalize mk t = x at *
        go_wp2_with fail
        go_ret
        exact ⟨by rw [hd.out]; rfl, rfl⟩
    · obtain rfl : k = l.length := by omega
      have hd : Hid (decide (Light l) = decide ((l.length : Int) ≤ 40)) := Lib.hid (by
        have h1 := Hall.out
        rw [List.take_length] at h1
        rw [decide_eq_decide]
        exact ⟨fun e => by have := e.2; omega, fun e => ⟨h1, by omega⟩⟩)
      go_wp2_with fail
      go_ret
      exact ⟨by rw [hd.out]; rfl, rfl⟩
end Go.Proofs.Ytlccbebociknaaa
