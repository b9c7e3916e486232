/- The document's own answer of layer 3: the disk in memory, a call counted, a sector read, which sectors have pending ones. -/
import Derived.Test.YtdagdmfockibfaaDiskRef
import Derived.Deep.QuietTactic
import Derived.BigQuiet
namespace Go.Proofs.Ytdagdmfockibfaa
open Go.RowKit Dsk

theorem PiecesAt.kept {w w' : World} {F G : Nat → Prop} {v : Value} {S : List (List ByteArray)} (h : PiecesAt w F v S) (k : Kept G w w') (hd : ∀ i, F i → ¬ G i) : PiecesAt w' F v S := by
  obtain ⟨vs, h1, h2, h3⟩ := h
  exact ⟨vs, h1.kept k hd, h2, fun i u l hu hl => (h3 i u l hu hl).kept k hd⟩

theorem PiecesAt.mono {w : World} {F G : Nat → Prop} {v : Value} {S : List (List ByteArray)} (h : PiecesAt w F v S) (hF : ∀ i, F i → G i) : PiecesAt w G v S := by
  obtain ⟨vs, h1, h2, h3⟩ := h
  exact ⟨vs, h1.mono hF, h2, fun i u l hu hl => (h3 i u l hu hl).mono hF⟩

def refCells (sv : Value) (calls armed : Nat) (down : Bool) : Array Value := #[sv, .int .i64 (calls : Int), .int .i64 (armed : Int), .bool down]

/-- The reference's disk in block b. -/
def RefBlk (w : World) (b : Nat) (sv : Value) (d : D) : Prop := Row w b 37 (refCells sv d.calls d.armed d.down)

/-- The reference's disk. -/
def RefAt (w : World) (F : Nat → Prop) (x : Value) (d : D) : Prop :=
  ∃ b sv, x = .pointer (some ⟨b, 0, none⟩) ∧ F b ∧ RefBlk w b sv d ∧ PiecesAt w (fun k => F k ∧ k ≠ b) sv d.S

theorem RefAt.kept {w w' : World} {F G : Nat → Prop} {x : Value} {d : D} (h : RefAt w F x d) (k : Kept G w w') (hd : ∀ i, F i → ¬ G i) : RefAt w' F x d := by
  obtain ⟨b, sv, h1, h2, h3, h4⟩ := h
  exact ⟨b, sv, h1, h2, Row.kept h3 k (hd b h2), h4.kept k (fun i hi => hd i hi.1)⟩

theorem RefBlk.facts {w : World} {b : Nat} {sv : Value} {d : D} (h : RefBlk w b sv d) :
    w.cell? ⟨b, 0, none⟩ = some sv ∧ w.cell? ⟨b, 1, none⟩ = some (.int .i64 (d.calls : Int)) ∧ w.cell? ⟨b, 2, none⟩ = some (.int .i64 (d.armed : Int)) ∧ w.cell? ⟨b, 3, none⟩ = some (.bool d.down) ∧
      w.frozen? ⟨b, 0, none⟩ = false ∧ w.frozen? ⟨b, 1, none⟩ = false ∧ w.frozen? ⟨b, 2, none⟩ = false ∧ w.frozen? ⟨b, 3, none⟩ = false :=
  ⟨h.at 0, h.at 1, h.at 2, h.at 3, h.free 0, h.free 1, h.free 2, h.free 3⟩

set_option maxRecDepth 100000 in
set_option maxHeartbeats 800000 in
theorem ref_call {w : World} {b : Nat} {sv : Value} {d : D} (h : RefBlk w b sv d) (hc : d.calls ≤ 1000000) (ha : d.armed < 9223372036854775808) :
    Calls Try.prog 36 #[.pointer (some ⟨b, 0, none⟩)] w fun e w' => e = .returned (.bool (!d.call.down)) ∧ RefBlk w' b sv d.call ∧ w.grownBy w' (some b) := by
  obtain ⟨c0, c1, c2, c3, f0, f1, f2, f3⟩ := h.facts
  have hc' : (d.calls : Int) ≤ 1000000 := by omega
  have ha' : (d.armed : Int) ≤ 9223372036854775807 := by omega
  have fin : Hid (∀ (n1 n2 : Int) (q : Bool), n1 = ((d.calls + 1 : Nat) : Int) → n2 = ((d.armed - 1 : Nat) : Int) → q = d.call.down →
      RefBlk (((w.setCell ⟨b, 1, none⟩ (.int .i64 n1)).setCell ⟨b, 3, none⟩ (.bool q)).setCell ⟨b, 2, none⟩ (.int .i64 n2)) b sv d.call ∧
      w.grownBy (((w.setCell ⟨b, 1, none⟩ (.int .i64 n1)).setCell ⟨b, 3, none⟩ (.bool q)).setCell ⟨b, 2, none⟩ (.int .i64 n2)) (some b)) := Lib.hid (fun n1 n2 q e1 e2 e3 => by
    subst e1 e2 e3
    exact ⟨((h.stored 1 _).stored 3 _).stored 2 _, gb_store (gb_store (gb_store (gb_refl _ _) 1 _) 3 _) 2 _⟩)
  have fin2 : Hid (∀ (n1 n2 : Int), n1 = ((d.calls + 1 : Nat) : Int) → n2 = ((d.armed - 1 : Nat) : Int) → d.down = d.call.down →
      RefBlk ((w.setCell ⟨b, 1, none⟩ (.int .i64 n1)).setCell ⟨b, 2, none⟩ (.int .i64 n2)) b sv d.call ∧
      w.grownBy ((w.setCell ⟨b, 1, none⟩ (.int .i64 n1)).setCell ⟨b, 2, none⟩ (.int .i64 n2)) (some b)) := Lib.hid (fun n1 n2 e1 e2 e3 => by
    subst e1 e2
    refine ⟨?_, gb_store (gb_store (gb_refl _ _) 1 _) 2 _⟩
    have := (h.stored 1 (.int .i64 ((d.calls + 1 : Nat) : Int))).stored 2 (.int .i64 ((d.armed - 1 : Nat) : Int))
    unfold RefBlk
    rw [← e3]
    exact this)
  have hdn : Hid (d.call.down = (d.down || d.armed == 1)) := Lib.hid rfl
  generalize d.call = d2 at *
  by_cases h1 : d.armed = 1
  · have hb1 : ((d.armed : Int) == 1) = true := by rw [h1]; rfl
    have hq : Hid (d2.down = true) := Lib.hid (by rw [hdn.out, h1]; simp)
    have hz : (max ((d.armed : Int) - 1) 0) = ((d.armed - 1 : Nat) : Int) := by omega
    have hi := fun w => high_any ((d.armed : Int) - 1) 0 w
    rw [hz] at hi
    have Hi := Lib.hid hi
    clear hi hz h h1
    go_enter Try.func36, Try.ntmps36
    go_wp2_with (go_at_call 26; with_reducible refine (Hi.out _).mono ?_; rintro e w' ⟨rfl, rfl⟩)
    go_ret
    exact ⟨by rw [hq.out]; rfl, fin.out _ _ _ (by omega) rfl hq.out.symm⟩
  · have hb1 : ((d.armed : Int) == 1) = false := by rw [beq_eq_false_iff_ne]; omega
    have hq : Hid (d2.down = d.down) := Lib.hid (by
      rw [hdn.out]
      have : (d.armed == 1) = false := by rw [beq_eq_false_iff_ne]; exact h1
      rw [this, Bool.or_false])
    have hz : (max ((d.armed : Int) - 1) 0) = ((d.armed - 1 : Nat) : Int) := by omega
    have hi := fun w => high_any ((d.armed : Int) - 1) 0 w
    rw [hz] at hi
    have Hi := Lib.hid hi
    clear hi hz h h1
    go_enter Try.func36, Try.ntmps36
    go_wp2_with (go_at_call 26; with_reducible refine (Hi.out _).mono ?_; rintro e w' ⟨rfl, rfl⟩)
    go_ret
    exact ⟨by rw [hq.out]; rfl, fin2.out _ _ (by omega) rfl hq.out.symm⟩

/-- A sector as it lies in memory: the sectors' row, the sector's row, the texts. -/
theorem PiecesAt.sector {w : World} {F : Nat → Prop} {v : Value} {S : List (List ByteArray)} (h : PiecesAt w F v S) {k : Nat} {l : List ByteArray} (hl : S[k]? = some l) (hp : 0 < l.length) :
    ∃ b o cap b2 o2 cap2, v = .slice (some ⟨b, o, none⟩) S.length cap ∧ F b ∧ S.length ≤ cap ∧ w.cell? ⟨b, o + k, none⟩ = some (.slice (some ⟨b2, o2, none⟩) l.length cap2) ∧ l.length ≤ cap2 ∧ F b2 ∧ b2 < w.heap.size ∧ b < w.heap.size ∧
      ∀ (i : Nat) (s : ByteArray), l[i]? = some s → w.cell? ⟨b2, o2 + i, none⟩ = some (.string s) := by
  obtain ⟨vs, ⟨A, cap, rfl, hcap, hat⟩, hvl, hin⟩ := h
  have hk := (List.getElem?_eq_some_iff.1 hl).1
  obtain ⟨b, o, rfl, hF, hb, hc⟩ := hat (by omega)
  obtain ⟨u, hu⟩ : ∃ u, vs[k]? = some u := ⟨_, List.getElem?_eq_getElem (by omega)⟩
  obtain ⟨A2, cap2, e2, hcap2, hat2⟩ := hin k u l hu hl
  rw [List.length_map] at e2 hcap2 hat2
  obtain ⟨b2, o2, rfl, hF2, hb2, hc2⟩ := hat2 hp
  refine ⟨b, o, cap, b2, o2, cap2, by rw [hvl], hF, by omega, by rw [hc k u hu, e2], hcap2, hF2, hb2, hb, fun i s hs => hc2 i _ ?_⟩
  rw [List.getElem?_map, hs]; rfl

set_option maxRecDepth 100000 in
set_option maxHeartbeats 800000 in
theorem ref_read {w : World} {b : Nat} {F : Nat → Prop} {sv : Value} {d : D} {k : Nat} {l : List ByteArray} (h : RefBlk w b sv d) (hS : PiecesAt w F sv d.S) (hl : d.S[k]? = some l) (hp : 0 < l.length) (hm : l.length ≤ 1000001) :
    Calls Try.prog 19 #[.pointer (some ⟨b, 0, none⟩), .int .i64 (k : Int)] w fun e w' => e = .returned (.string (last l)) ∧ ∃ n, w' = w.drewN n := by
  obtain ⟨bs, os, cap, b2, o2, cap2, rfl, -, -, hc, -, -, -, -, ht⟩ := hS.sector hl hp
  obtain ⟨c0, -, -, -, -, -, -, -⟩ := h.facts
  have hk := (List.getElem?_eq_some_iff.1 hl).1
  have hlast : l[l.length - 1]? = some (last l) := by
    unfold last
    rw [List.getLastD_eq_getLast?, List.getLast?_eq_getElem?, List.getElem?_eq_getElem (by omega)]
    rfl
  have hcl := ht _ _ hlast
  have hk1 : (k : Int) < (d.S.length : Int) := by omega
  have hk0 : (0 : Int) ≤ (k : Int) := by omega
  have hn0 : (0 : Int) ≤ (l.length : Int) - 1 := by omega
  have hn1 : (l.length : Int) - 1 < (l.length : Int) := by omega
  have hnw : IntKind.i64.wrap ((l.length : Int) - 1) = (l.length : Int) - 1 := IntWalk.i64_in _ ⟨by omega, by omega⟩
  have hnt : ((l.length : Int) - 1).toNat = l.length - 1 := by omega
  generalize last l = z at *
  generalize d.S.length = len at *
  clear ht hlast hl hS h hk
  go_enter Try.func19, Try.ntmps19
  go_wp2_with fail
  go_quiet (fail)
  go_wp2_with fail
  go_ret
  exact ⟨rfl, _, rfl⟩
end Go.Proofs.Ytdagdmfockibfaa
