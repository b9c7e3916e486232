/- What must come at any rate in layer 4, out of FrameOk. -/
import Derived.Test.YtlccbebociknaaaFrmOk
namespace Go.Proofs.Ytlccbebociknaaa
open Go.RowKit

def Frm.two : List (List UInt8) := [[97, 98], []]

theorem Frm.two_len : (Frm.all Frm.two).length = 12 := by decide +kernel

theorem two_cells (W : World) : Cells (W.alloc (.cells #[.string ⟨#[97, 98]⟩, .string ⟨#[]⟩] 9)) (fun _ => True) (.slice (some ⟨W.heap.size, 0, none⟩) 2 2) (texts Frm.two) :=
  ⟨some ⟨W.heap.size, 0, none⟩, 2, rfl, Nat.le_refl _, fun _ => ⟨W.heap.size, 0, rfl, trivial, by simp, fun i u hu => by
    rw [Nat.zero_add, (Row.made W 9 #[.string ⟨#[97, 98]⟩, .string ⟨#[]⟩]).at]
    match i, hu with
    | 0, hu => exact hu
    | 1, hu => exact hu
    | i + 2, hu => simp [texts, Frm.two] at hu⟩⟩

theorem two_below (W : World) (o : Obj) : Below W.heap.size W (W.alloc o) := (Below.refl _ W).alloc (Nat.le_refl _) o

set_option maxRecDepth 100000 in
set_option maxHeartbeats 1600000 in
theorem frm_awake (H : FrameOk) (w : World) : Calls Try.prog 8 #[] w fun e w' => e = .returned (.bool true) ∧ Below w.heap.size w w' := by
  have hs : ∀ t ∈ Frm.two, t.length ≤ 131072 := by decide
  have hread : ∀ W, Calls Try.prog 14 #[.string (mk (Frm.all Frm.two))] W fun e w' => ∃ v, e = .returned (.tuple #[v, .int .i64 0]) ∧ Cells w' (NewIn W w') v (texts Frm.two) ∧ Below W.heap.size W w' := fun W => by
    have h := H.read (mk (Frm.all Frm.two)) W (by rw [mk_len, Frm.two_len]; decide)
    rw [mk_data, Frm.read_all Frm.two (by decide)] at h
    exact h
  have hlay : ∀ W : World, Calls Try.prog 9 #[.slice (some ⟨W.heap.size, 0, none⟩) 2 2] (W.alloc (.cells #[.string ⟨#[97, 98]⟩, .string ⟨#[]⟩] 9)) fun e w' => e = .returned (.tuple #[.string (mk (Frm.all Frm.two)), .int .i64 0]) ∧ Below W.heap.size W w' := fun W => by
    refine (H.lay (two_cells W) (by decide) (fun t ht => by have := hs t ht; omega)).mono ?_
    rw [if_pos (by rw [Frm.two_len]; decide)]
    rintro e w' ⟨rfl, h⟩
    exact ⟨rfl, (two_below W _).trans (h.mono (two_below W _).size)⟩
  have hsize : ∀ W : World, Calls Try.prog 11 #[.slice (some ⟨W.heap.size, 0, none⟩) 2 2] (W.alloc (.cells #[.string ⟨#[97, 98]⟩, .string ⟨#[]⟩] 9)) fun e w' => e = .returned (.int .i64 12) ∧ Below W.heap.size W w' := fun W => by
    refine (H.size (two_cells W) (by decide) (fun t ht => by have := hs t ht; omega)).mono ?_
    rw [if_pos (by rw [Frm.two_len]; decide), Frm.two_len]
    rintro e w' ⟨rfl, h⟩
    exact ⟨rfl, (two_below W _).trans (h.mono (two_below W _).size)⟩
  have htx : ∀ (W : World) (F : Nat → Prop) (v : Value), Cells W F v (texts Frm.two) → Calls Try.prog 16 #[v, .slice (some ⟨W.heap.size, 0, none⟩) 2 2] (W.alloc (.cells #[.string ⟨#[97, 98]⟩, .string ⟨#[]⟩] 9)) fun e w' => e = .returned (.bool true) ∧ Below W.heap.size W w' := fun W F v hv => by
    refine (texts_same (hv.below (two_below W _)) (two_cells W) (by decide)).mono ?_
    rintro e w' ⟨rfl, h⟩
    exact ⟨rfl, (two_below W _).trans (h.mono (two_below W _).size)⟩
  have hz : (mk (Frm.all Frm.two)).size = 12 := by rw [mk_len, Frm.two_len]
  have hz2 : (((mk (Frm.all Frm.two)).size : Int) == 12) = true := by rw [hz]; rfl
  have HR := Lib.hid hread
  have HL := Lib.hid hlay
  have HS := Lib.hid hsize
  have HT := Lib.hid htx
  clear hread hlay hsize htx hs hz
  generalize mk (Frm.all Frm.two) = A at *
  go_enter Try.func8, Try.ntmps8
  go_wp2_with fail
  refine (HL.out w).mono ?_
  rintro e w1 ⟨rfl, h1⟩
  have h1 := Lib.hid h1
  go_wp2_with fail
  refine (HR.out w1).mono ?_
  rintro e w2 ⟨v, rfl, hv, h2⟩
  have h2 := Lib.hid h2
  have hv := Lib.hid hv
  go_wp2_with fail
  refine (HT.out w2 _ v hv.out).mono ?_
  rintro e w3 ⟨rfl, h3⟩
  have h3 := Lib.hid h3
  go_wp2_with fail
  refine (HS.out w3).mono ?_
  rintro e w4 ⟨rfl, h4⟩
  have h4 := Lib.hid h4
  go_wp2_with fail
  go_ret
  have z1 := h1.out.size
  have z2 := h2.out.size
  have z3 := h3.out.size
  exact ⟨rfl, ((h1.out.trans (h2.out.mono z1)).trans (h3.out.mono (by omega))).trans (h4.out.mono (by omega))⟩
end Go.Proofs.Ytlccbebociknaaa
