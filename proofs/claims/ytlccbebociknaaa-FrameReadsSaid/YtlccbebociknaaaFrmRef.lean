/- The document's own answers of layer 4: One, All, First, Read; two slices that read as one list of texts. -/
import Derived.Test.YtlccbebociknaaaFrmMath
import Derived.Test.YtlccbebociknaaaRef
import Derived.Test.YtlccbebociknaaaMem
import Derived.Deep.QuietTactic
import Derived.BigQuiet
import Derived.Deep.RegionWith
import Derived.WalkSpells
namespace Go.Proofs.Ytlccbebociknaaa
open Go.RowKit

def mk (l : List UInt8) : ByteArray := ⟨l.toArray⟩
theorem mk_data (l : List UInt8) : (mk l).data.toList = l := rfl
theorem mk_len (l : List UInt8) : (mk l).size = l.length := by rw [Lib.size_eq]; rfl
theorem mk_of (s : ByteArray) : mk s.data.toList = s := bytes_ext rfl
theorem mk_append (a b : List UInt8) : mk a ++ mk b = mk (a ++ b) := bytes_ext (by rw [ByteArray.data_append, Array.toList_append]; rfl)

def texts (l : List (List UInt8)) : List Value := l.map fun t => Value.string (mk t)
theorem texts_len (l : List (List UInt8)) : (texts l).length = l.length := List.length_map _
theorem texts_at {l : List (List UInt8)} {i : Nat} {t : List UInt8} (h : l[i]? = some t) : (texts l)[i]? = some (.string (mk t)) := by
  unfold texts
  rw [List.getElem?_map, h]; rfl

def NewIn (w w' : World) (k : Nat) : Prop := w.heap.size ≤ k ∧ k < w'.heap.size

set_option maxRecDepth 100000 in
theorem ref_one (t : List UInt8) (w : World) (hs : t.length ≤ 100000) :
    Calls Try.prog 19 #[.string (mk t)] w fun e w' => e = .returned (.string (mk (Frm.one t))) ∧ Below w.heap.size w w' := by
  have ht := fun W => ref_text (mk t) W (by rw [mk_len]; omega)
  have hf := fun W => ref_four (mk t) W (by rw [mk_len]; exact hs)
  rw [mk_len, mk_data] at ht
  rw [mk_data] at hf
  have hz : (mk (Leb.enc t.length ++ t)).size ≤ 100009 := by rw [mk_len, List.length_append]; have := (Leb.enc_len t.length).2; omega
  have hz4 : (mk (Frm.sumOf t)).size = 4 := rfl
  have hfin : Hid (mk (Leb.enc t.length ++ t) ++ mk (Frm.sumOf t) = mk (Frm.one t)) := Lib.hid (mk_append _ _)
  have HT : Hid (∀ W, Calls Try.prog 32 #[.string (mk t)] W fun e w' => e = .returned (.string (mk (Leb.enc t.length ++ t))) ∧ Below W.heap.size W w') := ht
  have HF : Hid (∀ W, Calls Try.prog 27 #[.string (mk t)] W fun e w' => e = .returned (.string (mk (Frm.sumOf t))) ∧ Below W.heap.size W w') := hf
  clear ht hf
  generalize mk (Leb.enc t.length ++ t) = a at *
  generalize mk (Frm.sumOf t) = b at *
  have hcc : ¬ 9223372036854775807 < a.size + b.size := by omega
  clear hz hz4
  go_enter Try.func19, Try.ntmps19
  go_wp2_with fail
  refine (HT.out w).mono ?_
  rintro e w1 ⟨rfl, h1⟩
  have h1 := Lib.hid h1
  go_wp2_with fail
  refine (HF.out w1).mono ?_
  rintro e w2 ⟨rfl, h2⟩
  have h2 := Lib.hid h2
  go_wp2_with fail
  go_ret
  exact ⟨by rw [← hfin.out]; rfl, h1.out.trans (h2.out.mono h1.out.size)⟩

theorem all_len (l : List (List UInt8)) (h : ∀ t ∈ l, t.length ≤ 100000) : (Frm.all l).length ≤ l.length * 100013 := by
  induction l with
  | nil => exact Nat.le_refl _
  | cons t l ih =>
    have h1 := ih (fun x hx => h x (by simp [hx]))
    have h2 := h t (by simp)
    have h3 := (Leb.enc_len t.length).2
    rw [Frm.all_cons, List.length_append, Frm.one_len, List.length_cons]
    omega

set_option maxRecDepth 100000 in
set_option maxHeartbeats 800000 in
theorem ref_all {w : World} {F : Nat → Prop} {v : Value} {l : List (List UInt8)} (h : Cells w F v (texts l)) (hl : l.length ≤ 1000) (hs : ∀ t ∈ l, t.length ≤ 100000) :
    Calls Try.prog 10 #[v] w fun e w' => e = .returned (.string (mk (Frm.all l))) ∧ Below w.heap.size w w' := by
  obtain ⟨A, cap, rfl, hcap, hat⟩ := h
  rw [texts_len] at hcap hat ⊢
  have Hat := Lib.hid hat
  have Hs := Lib.hid hs
  have hl' : (l.length : Int) ≤ 1000 := by omega
  have Hl := Lib.hid hl
  clear hat hs hl
  go_enter Try.func10, Try.ntmps10
  go_wp2_with fail
  go_loopw [3, 4] (fun o i wr => ∃ k : Nat, k ≤ l.length ∧ i = .int .i64 (k : Int) ∧ o = .string (mk (Frm.all (l.take k))) ∧ Below w.heap.size w wr) (fun _ i _ => l.length - (intOf i).toNat)
  case atStart => exact ⟨0, Nat.zero_le _, rfl, rfl, Below.refl _ _⟩
  case round =>
    obtain ⟨k, hk, rfl, rfl, hbel⟩ := hrel
    by_cases hlt : k < l.length
    · obtain ⟨b, o, rfl, -, hb, hc⟩ := Hat.out (by omega)
      obtain ⟨t, ht⟩ : ∃ t, l[k]? = some t := ⟨_, List.getElem?_eq_getElem hlt⟩
      have hts := Hs.out t (List.mem_of_getElem? ht)
      have hce : wr.cell? ⟨b, o + k, none⟩ = some (.string (mk t)) := (hbel.cell (p := ⟨b, o + k, none⟩) hb).trans (hc k _ (texts_at ht))
      have hsn : Hid (mk (Frm.all (l.take k)) ++ mk (Frm.one t) = mk (Frm.all (l.take (k + 1)))) := Lib.hid (by
        obtain ⟨hil, he⟩ := List.getElem?_eq_some_iff.1 ht
        rw [mk_append, List.take_succ_eq_append_getElem hil, he, Frm.all_snoc])
      have hcc : ¬ 9223372036854775807 < (mk (Frm.all (l.take k))).size + (mk (Frm.one t)).size := by
        have h1 := all_len (l.take k) (fun x hx => Hs.out x (List.mem_of_mem_take hx))
        have h2 := List.length_take_le k l
        have h3 := (Leb.enc_len t.length).2
        rw [mk_len, mk_len, Frm.one_len]
        have := Hl.out
        omega
      have hone := fun W => ref_one t W hts
      have hk0 : (0 : Int) ≤ (k : Int) := by omega
      have hk1 : (k : Int) < (l.length : Int) := by omega
      generalize mk (Frm.one t) = z at *
      generalize mk (Frm.all (l.take k)) = y at *
      generalize mk t = x at *
      have HO := Lib.hid hone
      have Hbel := Lib.hid hbel
      clear hone hbel hc ht hts
      go_wp2_with fail
      refine (HO.out wr).mono ?_
      rintro e w1 ⟨rfl, h1⟩
      have h1 := Lib.hid h1
      go_wp2_with fail
      refine ⟨⟨k + 1, by omega, rfl, by rw [hsn.out], Hbel.out.trans (h1.out.mono Hbel.out.size)⟩, ?_⟩
      show l.length - ((k : Int) + 1).toNat < l.length - (k : Int).toNat
      omega
    · obtain rfl : k = l.length := by omega
      rw [List.take_length]
      have Hbel := Lib.hid hbel
      clear hbel
      go_wp2_with fail
      go_ret
      exact ⟨rfl, Hbel.out⟩
end Go.Proofs.Ytlccbebociknaaa
