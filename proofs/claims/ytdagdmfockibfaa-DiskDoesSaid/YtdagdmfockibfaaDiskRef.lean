/- The document's own answer of layer 3: a text filled up, a sector set. -/
import Derived.Test.YtdagdmfockibfaaFrame
import Derived.Test.YtdagdmfockibfaaMem
import Derived.Test.YtdagdmfockibfaaDiskMath
import Derived.OwnWalk
import Derived.Lib.Strings
import Derived.Deep.RegionHeld3
namespace Go.Proofs.Ytdagdmfockibfaa
open Go.RowKit

theorem high_any (a b : Int) (w : World) : Calls Try.prog 26 #[.int .i64 a, .int .i64 b] w fun e w' => e = .returned (.int .i64 (max a b)) ∧ w = w' := by
  by_cases h : a > b
  · have e : max a b = a := by omega
    rw [e]
    go_enter Try.func26, Try.ntmps26
    go_wp2
    go_ret
    exact ⟨rfl, rfl⟩
  · have e : max a b = b := by omega
    have h2 : decide (a > b) = false := by simpa using h
    rw [e]
    clear e h
    go_enter Try.func26, Try.ntmps26
    go_wp2
    go_ret
    exact ⟨rfl, rfl⟩

def padded (s : ByteArray) (k : Nat) : ByteArray := ⟨s.data ++ Array.replicate k 0⟩

theorem padded_size (s : ByteArray) (k : Nat) : (padded s k).size = s.size + k := by
  show (s.data ++ Array.replicate k 0).size = _
  rw [Array.size_append, Array.size_replicate]; rfl

theorem padded_more (s : ByteArray) (k : Nat) : padded s k ++ ⟨#[0]⟩ = padded s (k + 1) := by
  apply ByteArray.ext
  rw [ByteArray.data_append]
  show (s.data ++ Array.replicate k 0) ++ #[0] = s.data ++ Array.replicate (k + 1) 0
  rw [Array.append_assoc, Array.replicate_succ]
  rfl

def roomOf : Value → Nat
  | .string b => 64 - b.size
  | _ => 0

set_option maxRecDepth 100000 in
theorem ref_fill (s : ByteArray) (w : World) (hs : s.size ≤ 64) : Calls Try.prog 20 #[.string s] w fun e w' => e = .returned (.string (Dsk.fill s)) ∧ w = w' := by
  have h0 : padded s 0 = s := by
    apply ByteArray.ext
    show s.data ++ Array.replicate 0 0 = s.data
    simp
  have h1 : padded s (64 - s.size) = Dsk.fill s := rfl
  have H0 := Lib.hid h0
  have H1 := Lib.hid h1
  have hsi : (s.size : Int) ≤ 64 := by omega
  have hm := padded_more s
  have Hm := Lib.hid hm
  clear h0 h1 hm
  go_enter Try.func20, Try.ntmps20
  go_wp2_with fail
  go_loop [0] (fun t => ∃ k : Nat, k ≤ 64 - s.size ∧ t = .string (padded s k)) (fun t => roomOf t)
  case atStart => exact ⟨0, Nat.zero_le _, by rw [H0.out]⟩
  case round =>
    obtain ⟨k, hk, rfl⟩ := hrel
    have hsz := padded_size s k
    have Hsz := Lib.hid hsz
    have hn := Hm.out k
    by_cases hlt : s.size + k < 64
    · have hb : decide (((padded s k).size : Int) < 64) = true := by simp; omega
      have hc : ¬ 9223372036854775807 < (padded s k).size + 1 := by omega
      clear hsz
      go_wp2_with fail
      have e := padded_size s (k + 1)
      exact ⟨⟨k + 1, by omega, rfl⟩, by show 64 - (padded s (k + 1)).size < 64 - (padded s k).size; rw [Hsz.out, e]; omega⟩
    · have hb : decide (((padded s k).size : Int) < 64) = false := by simp; omega
      have hk2 : Hid (padded s k = Dsk.fill s) := Lib.hid (by rw [← H1.out]; congr 1; omega)
      clear hsz hn
      go_wp2_with fail
      go_ret
      exact ⟨by rw [hk2.out]; rfl, rfl⟩

/-! ### Sectors in memory -/

/-- A slice value that reads as these sectors. -/
def PiecesAt (w : World) (F : Nat → Prop) (v : Value) (S : List (List ByteArray)) : Prop :=
  ∃ vs, Cells w F v vs ∧ vs.length = S.length ∧ ∀ (i : Nat) (u : Value) (l : List ByteArray), vs[i]? = some u → S[i]? = some l → Cells w F u (l.map Value.string)


theorem stringInfo : (Try.prog.info? 9).map (fun i => (i.zero, i.size, i.bytes)) = some (some (.string ⟨#[]⟩), 1, 16) := by kernel_rfl
theorem pieceInfo : (Try.prog.info? 64).map (fun i => (i.zero, i.size, i.bytes)) = some (some (.agg #[.slice none 0 0]), 1, 24) := by kernel_rfl

set_option maxRecDepth 100000 in
set_option maxHeartbeats 400000 in
theorem ref_set {w : World} {F : Nat → Prop} {v u : Value} {S : List (List ByteArray)} {p : List ByteArray} {k : Nat} (h : PiecesAt w F v S) (hp : Cells w F u (p.map Value.string)) (hk : k < S.length) (hS : S.length ≤ 4096) :
    Calls Try.prog 30 #[v, .int .i64 k, .agg #[u]] w fun e w' => ∃ v', e = .returned v' ∧ PiecesAt w' (Grow F w w') v' (S.set k p) ∧ Below w.heap.size w w' := by
  obtain ⟨vs, ⟨A, cap, rfl, hcap, hat⟩, hl, hin⟩ := h
  obtain ⟨b, o, rfl, hF, hb, hcell⟩ := hat (by omega)
  obtain ⟨i0, hi, hz0, hz1, hz2⟩ := info_parts pieceInfo
  obtain ⟨pA, pn, pc, rfl⟩ : ∃ pA pn pc, u = .slice pA pn pc := by
    obtain ⟨A', cap', e, _⟩ := hp
    exact ⟨_, _, _, e⟩
  generalize hu : Value.slice pA pn pc = u at *
  have hW2 : Below w.heap.size w ((w.alloc (.cells #[u] 64)).alloc (.cells #[] 64)) := ((Below.refl _ _).alloc (Nat.le_refl _) _).alloc (by simp) _
  have hown : ((w.alloc (.cells #[u] 64)).alloc (.cells #[] 64)).ownsRow w.heap.size 64 1 (.slice (some ⟨w.heap.size + 1, 0, none⟩) 0 0) 0 [] := by
    have := World.ownsRow_made (base := w.heap.size) (e := 64) (size := 1) (w.alloc (.cells #[u] 64)) #[] 0 (by simp) (by decide) (by simp)
    simpa using this
  have hbox : ((w.alloc (.cells #[u] 64)).alloc (.cells #[] 64)).cell? ⟨w.heap.size, 0, none⟩ = some u :=
    ((Row.made w 64 #[u]).behindNew _).at 0
  have hnews : ∀ j x, vs[j]? = some x → ((w.alloc (.cells #[u] 64)).alloc (.cells #[] 64)).cell? ((⟨b, o, none⟩ : Addr).add j) = some x := fun j x hx => by
    rw [Go.WideShapes.add_plain, hW2.cell (p := ⟨b, o + j, none⟩) hb]
    exact hcell j x hx
  have hone : ∀ x ∈ vs, x.oneCell' = true := fun x hx => by
    obtain ⟨j, hj, rfl⟩ := List.getElem_of_mem hx
    obtain ⟨A', cap', e, _⟩ := hin j vs[j] (S[j]'(by omega)) (List.getElem?_eq_getElem hj) (List.getElem?_eq_getElem (by omega))
    rw [e]; rfl
  have hpos : 0 < vs.length := by omega
  have hvl : vs.length ≤ 4096 := by omega
  have hkv : k < vs.length := by omega
  have hfin : Hid (∀ (w3 : World) (g cap3 : Nat), w3.ownsRow w.heap.size 64 1 (.slice (some ⟨g, 0, none⟩) vs.length cap3) vs.length (vs.set k u) → Below w.heap.size w w3 → PiecesAt w3 (Grow F w w3) (.slice (some ⟨g, 0, none⟩) vs.length cap3) (S.set k p)) := Lib.hid (fun w3 g cap3 ho hbel => by
    refine ⟨vs.set k u, Cells.ofOwn ho (fun b' e h1 h2 => Or.inr ⟨h1, h2⟩), by rw [List.length_set, List.length_set, hl], fun i x l hx hl2 => ?_⟩
    by_cases hik : k = i
    · subst hik
      rw [List.getElem?_set_self (by omega)] at hx hl2
      cases hx; cases hl2
      exact (hp.kept (Kept.ofBelow hbel (fun _ => False)) (fun _ _ h => h)).mono (fun _ h => Or.inl h)
    · rw [List.getElem?_set_ne hik] at hx hl2
      exact ((hin i x l hx hl2).kept (Kept.ofBelow hbel (fun _ => False)) (fun _ _ h => h)).mono (fun _ h => Or.inl h))
  have HW2 := Lib.hid hW2
  have hk63 : (k : Int) < (vs.length : Int) := by omega
  have hk0 : (0 : Int) ≤ (k : Int) := by omega
  have Hvl := Lib.hid hvl
  clear hl hin hp hcell hW2 hk hS hvl
  go_enter Try.func30, Try.ntmps30
  go_wp2_with (at_builtin; refine wpList_append_lies _ rfl _ _ 35 (by rfl) w.heap.size 64 i0 (.agg #[.slice none 0 0]) 1 24 Try.underlying35 hi hz0 hz1 hz2 (by rfl) (by decide) _ 0 [] (by rfl) hown ⟨b, o, none⟩ vs.length cap vs (by rfl) (by simp) hnews hone hpos ?c1 ?c2 ?c3 _ rfl ?_)
  case c1 => have := Hvl.out; unfold maxLen; omega
  case c2 => have := Hvl.out; omega
  case c3 => simp; omega
  intro g cap3 w3 hown3 hgrow3 hat3 hlt3
  have hc0 : w3.cell? ⟨w.heap.size, 0, none⟩ = some u := (hgrow3.cell_far ⟨w.heap.size, 0, none⟩ (by simp; omega) (by simp [Value.ownBlock])).trans hbox
  have hfr := hown3.frozenAt k
  have hck : w3.cell? ⟨g, k, none⟩ = some (vs[k]'hkv) := by rw [hown3.cellAt k (by omega)]; exact List.getElem?_eq_getElem hkv
  have hst := (hown3.stored k u).1
  have hgb : w.heap.size ≤ g := (hown3.lt g rfl).1
  have hb4 : Below w.heap.size w (w3.setCell ⟨g, k, none⟩ u) := (HW2.out.grown hgrow3 (by simp; omega) (fun k' e => by simp [Value.ownBlock] at e; omega)).setCell hgb u
  have Hst := Lib.hid hst
  have Hb4 := Lib.hid hb4
  clear hown3 hgrow3 hat3 hst hb4 hown hnews hone hbox HW2
  subst hu
  go_wp2_with fail
  go_ret
  exact ⟨_, rfl, hfin.out _ _ _ Hst.out Hb4.out, Hb4.out⟩
end Go.Proofs.Ytdagdmfockibfaa
