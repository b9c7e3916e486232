/- The document's own answers of layer 4: Read. -/
import Derived.Test.YtadgdppkokbphaaFrmRef2
import Derived.Test.YtadgdppkokbphaaTexts
import Derived.OwnWalk
namespace Go.Proofs.Ytadgdppkokbphaa
open Go.RowKit

def sizeIn : Value → Nat | .string b => b.size | _ => 0

/-- What has been read, and what is left. -/
def Rest (S : List UInt8) (d : List (List UInt8)) (r : List UInt8) : Prop := d.length + r.length ≤ S.length ∧ Frm.read S = if (Frm.read r).2 = 0 then (d ++ (Frm.read r).1, 0) else ([], (Frm.read r).2)

set_option maxRecDepth 100000 in
theorem rest_start (S : List UInt8) : Rest S [] S := ⟨by simp, by
  by_cases h : (Frm.read S).2 = 0
  · rw [if_pos h, List.nil_append, ← h]
  · rw [if_neg h, ← Frm.read_none S h]⟩

set_option maxRecDepth 100000 in
theorem rest_end {S : List UInt8} {d : List (List UInt8)} (h : Rest S d []) : Frm.read S = (d, 0) := by
  have := h.2
  rw [show Frm.read [] = ([], 0) from rfl] at this
  simpa using this

set_option maxRecDepth 100000 in
theorem rest_bad {S r : List UInt8} {d : List (List UInt8)} (h : Rest S d r) (hr : r ≠ []) (hx : (Frm.first r).2.2 ≠ 0) : Frm.read S = ([], (Frm.first r).2.2) := by
  have e := Frm.read_step r hr
  rw [if_neg hx] at e
  have := h.2
  rw [e] at this
  rw [this, if_neg hx]

set_option maxRecDepth 100000 in
theorem rest_step {S r : List UInt8} {d : List (List UInt8)} (h : Rest S d r) (hr : r ≠ []) (hx : (Frm.first r).2.2 = 0) : Rest S (d ++ [(Frm.first r).1]) (r.drop (Frm.first r).2.1) := by
  have e := Frm.read_step r hr
  rw [if_pos hx] at e
  have hn := (Frm.first_only r (Frm.first r).1 (Frm.first r).2.1 (by rw [← hx])).2.2.2
  have hr0 : 0 < r.length := List.length_pos_iff.2 hr
  refine ⟨by have := h.1; rw [List.length_append, List.length_drop]; simp; omega, ?_⟩
  rw [h.2, e]
  by_cases hz : (Frm.read (r.drop (Frm.first r).2.1)).2 = 0
  · rw [if_pos hz, if_pos rfl, if_pos hz]; simp
  · rw [if_neg hz, if_neg hz, if_neg hz]

end Go.Proofs.Ytadgdppkokbphaa
