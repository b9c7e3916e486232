/- The document's own answer of layer 2: the sum by division. -/
import Derived.Test.YtlccbebociknaaaCrcBits
import Derived.Test.YtlccbebociknaaaCrcDiv
import Derived.BigRegion
import Derived.Laws.OwnMore
namespace Go.Proofs.Ytlccbebociknaaa
open Go.RowKit

def powCells : Array Value := #[.int .i64 28, .int .i64 27, .int .i64 26, .int .i64 25, .int .i64 23, .int .i64 22, .int .i64 20, .int .i64 19, .int .i64 18, .int .i64 14, .int .i64 13, .int .i64 11, .int .i64 10, .int .i64 9, .int .i64 8, .int .i64 6, .int .i64 0]

theorem powCells_at (k p : Nat) (h : Crc.pows[k]? = some p) : powCells[k]? = some (.int .i64 p) := by
  have hk : k < 17 := (List.getElem?_eq_some_iff.1 h).1
  have : ∀ j : Fin 17, powCells[j.val]? = (Crc.pows[j.val]?).map fun q => Value.int .i64 (q : Int) := by
    intro j
    match j with
    | ⟨0, _⟩ | ⟨1, _⟩ | ⟨2, _⟩ | ⟨3, _⟩ | ⟨4, _⟩ | ⟨5, _⟩ | ⟨6, _⟩ | ⟨7, _⟩ | ⟨8, _⟩ | ⟨9, _⟩ | ⟨10, _⟩ | ⟨11, _⟩ | ⟨12, _⟩ | ⟨13, _⟩ | ⟨14, _⟩ | ⟨15, _⟩ | ⟨16, _⟩ => rfl
    | ⟨n + 17, h⟩ => exact absurd h (by omega)
  rw [this ⟨k, hk⟩, h]
  rfl

theorem ref_powers (w : World) : Calls Try.prog 46 #[] w fun e w' => e = .returned (.slice (some ⟨w.heap.size, 0, none⟩) 17 17) ∧ w' = w.alloc (.cells powCells 3) := by
  unfold powCells
  go_enter Try.func46, Try.ntmps46
  go_wp2
  go_ret
  exact ⟨rfl, rfl⟩

/-- The call's own row of bits at block g. -/
def Cel (w : World) (g n cap : Nat) (B : List Bool) (wr : World) : Prop := B.length = n ∧ w.heap.size ≤ g ∧ wr.ownsRow w.heap.size 4 1 (.slice (some ⟨g, 0, none⟩) n cap) n (bools B) ∧ Below w.heap.size w wr

theorem Cel.at {w wr : World} {g n cap : Nat} {B : List Bool} (h : Cel w g n cap B wr) {j : Nat} (hj : j < n) : wr.cell? ⟨g, j, none⟩ = some (.bool (B.getD j false)) := by
  rw [h.2.2.1.cellAt j (by omega)]
  have : j < B.length := by rw [h.1]; exact hj
  simp [bools, List.getD, this]

theorem Cel.free {w wr : World} {g n cap : Nat} {B : List Bool} (h : Cel w g n cap B wr) (j : Nat) : wr.frozen? ⟨g, j, none⟩ = false := h.2.2.1.frozenAt j

theorem Cel.set {w wr : World} {g n cap : Nat} {B : List Bool} (h : Cel w g n cap B wr) (j : Nat) (x : Bool) : Cel w g n cap (B.set j x) (wr.setCell ⟨g, j, none⟩ (.bool x)) := by
  refine ⟨by rw [List.length_set]; exact h.1, h.2.1, ?_, h.2.2.2.setCell (p := ⟨g, j, none⟩) h.2.1 _⟩
  have := (h.2.2.1.stored j (.bool x)).1
  simpa [bools, List.map_set] using this

theorem Cel.new {w wr : World} {g n cap : Nat} {B : List Bool} (h : Cel w g n cap B wr) (o : Obj) : Cel w g n cap B (wr.alloc o) := ⟨h.1, h.2.1, h.2.2.1.alloc o, h.2.2.2.alloc h.2.2.2.size o⟩

theorem Cel.draws {w wr : World} {g n cap : Nat} {B : List Bool} (h : Cel w g n cap B wr) : Cel w g n cap B wr.drew := ⟨h.1, h.2.1, h.2.2.1.drew, h.2.2.2.drew⟩

theorem Cel.ne {w wr : World} {g n cap : Nat} {B : List Bool} (h : Cel w g n cap B wr) {b : Nat} {u : TypeId} {cs : Array Value} (hr : Row wr b u cs) (hu : u ≠ 4) : g ≠ b := by
  rintro rfl
  rcases h.2.2.1.2 with ⟨hv, _⟩ | ⟨g', cap', cur, hv, _, hh, _⟩
  · simp at hv
  · simp only [Value.slice.injEq, Option.some.injEq, Addr.mk.injEq, and_true, true_and] at hv
    obtain ⟨rfl, _⟩ := hv
    have h2 : wr.heap[g]? = some (Obj.cells cs u (0, 0)) := hr
    rw [h2] at hh
    injection hh with hh
    injection hh with _ ht
    exact hu ht

theorem cel_of {w wr : World} {v : Value} {B : List Bool} (h : BitsAt w B v wr) (hn : 0 < B.length) : ∃ g cap, v = .slice (some ⟨g, 0, none⟩) B.length cap ∧ Cel w g B.length cap B wr := by
  rcases h.1.2 with ⟨_, h0⟩ | ⟨g, cap, cur, hv, hb, _⟩
  · omega
  · refine ⟨g, cap, hv, rfl, hb, ?_, h.2⟩
    have := h.1
    rw [hv] at this
    exact this

theorem pad_get (M : List Bool) (n j : Nat) : (M ++ List.replicate n false).getD j false = Crc.mbit M j := by
  unfold Crc.mbit
  simp only [List.getD_eq_getElem?_getD]
  by_cases h : j < M.length
  · rw [List.getElem?_append_left h]
  · rw [List.getElem?_append_right (by omega), List.getElem?_eq_none (l := M) (by omega), List.getElem?_replicate]
    by_cases h2 : j - M.length < n
    · rw [if_pos h2]; rfl
    · rw [if_neg h2]

/-- The first i bits are turned. -/
def Turned (M : List Bool) (i : Nat) (B : List Bool) : Prop := B.length = M.length + 32 ∧ ∀ j, j < M.length + 32 → B.getD j false = (Crc.mbit M j ^^ decide (j < i))

theorem turned_more {M B : List Bool} {i : Nat} (h : Turned M i B) (hi : i < M.length + 32) : Turned M (i + 1) (B.set i (!B.getD i false)) := by
  refine ⟨by rw [List.length_set]; exact h.1, fun j hj => ?_⟩
  have hl := h.1
  by_cases e : i = j
  · subst e
    have : (B.set i (!B.getD i false)).getD i false = !B.getD i false := by
      rw [List.getD_eq_getElem?_getD, List.getElem?_set_self (by omega)]; rfl
    rw [this, h.2 i hj, decide_eq_true (show i < i + 1 by omega), decide_eq_false (show ¬ i < i by omega)]
    cases Crc.mbit M i <;> rfl
  · have : (B.set i (!B.getD i false)).getD j false = B.getD j false := by
      rw [List.getD_eq_getElem?_getD, List.getElem?_set_ne e, List.getD_eq_getElem?_getD]
    rw [this, h.2 j hj]
    congr 1
    rw [decide_eq_decide]
    omega

set_option maxRecDepth 100000 in
set_option maxHeartbeats 3200000 in
theorem ref_sum (s : ByteArray) (w : World) (hs : s.size ≤ 100000) :
    Calls Try.prog 38 #[.string s] w fun e w' => e = .returned (.int .i64 ((Crc.sum s.data.toList).toNat : Int)) ∧ Below w.heap.size w w' := by
  have hbits := fun W => ref_bits s W hs
  obtain ⟨M, hM⟩ : ∃ M, M = Crc.msg s.data.toList := ⟨_, rfl⟩
  have hml : M.length ≤ 800000 := by rw [hM, Crc.msg_len, ← Lib.size_eq]; omega
  have hsum : (Crc.sum s.data.toList) = ~~~ Crc.run (BitVec.allOnes 32) M := by rw [hM]; rfl
  rw [← hM] at hbits
  have Hbits := Lib.hid hbits
  have Hml := Lib.hid hml
  have Hsum := Lib.hid hsum
  have hmi : (M.length : Int) ≤ 800000 := by omega
  clear hbits hM hml hsum
  go_enter Try.func38, Try.ntmps38
  go_wp2_with (go_at_call 45; refine (Hbits.out _).mono ?_; rintro e w1 ⟨v, rfl, hb1⟩; obtain ⟨g, cap, rfl, hc1⟩ := cel_of hb1 (by simp))
  have ht1 : Turned M 0 (M ++ List.replicate 32 false) := ⟨by simp, fun j _ => by rw [pad_get]; simp⟩
  have hlen : (M ++ List.replicate 32 false).length = M.length + 32 := by simp
  rw [hlen] at hc1
  generalize M ++ List.replicate 32 false = B0 at hc1 ht1
  clear hb1 hlen
  go_loopw [4] (fun x wr => ∃ (i : Nat) (B : List Bool), i ≤ 32 ∧ x = .int .i64 i ∧ Cel w g (M.length + 32) cap B wr ∧ Turned M i B) (fun x _ => 32 - (intOf x).toNat)
  case atStart => exact ⟨0, B0, by omega, rfl, hc1, ht1⟩
  case round =>
    obtain ⟨i, B, hi, rfl, hc, ht⟩ := hrel
    clear hc1 ht1
    by_cases hlt : i < 32
    · have c1 := hc.at (j := i) (by omega)
      have f1 := hc.free i
      have Hset := Lib.hid (hc.set i (!B.getD i false))
      have Hturn := Lib.hid (turned_more ht (show i < M.length + 32 by omega))
      generalize B.getD i false = y at *
      go_wp2_with fail
      go_roundw
      case rel => exact ⟨i + 1, _, by omega, by go_num, Hset.out, Hturn.out⟩
      case measure => simp [intOf]; omega
    · obtain rfl : i = 32 := by omega
      have hcells := Crc.cells_start M B ht.1 ht.2
      have Hcells := Lib.hid hcells
      have Hcel := Lib.hid (hc.new (.cells powCells 3))
      have Hpow := Lib.hid (Row.made wr 3 powCells)
      clear hcells ht hc
      go_wp2_with (go_at_call 46; refine (ref_powers _).mono ?_; rintro e w2 ⟨rfl, rfl⟩)
      obtain ⟨wo, rfl⟩ : ∃ wo : World, wo = wr := ⟨_, rfl⟩
      go_loopw [6] (fun x wr => ∃ (i : Nat) (B : List Bool), i ≤ M.length ∧ x = .int .i64 i ∧ Row wr wo.heap.size 3 powCells ∧ Cel w g (M.length + 32) cap B wr ∧ Crc.Cells M i B) (fun x _ => M.length - (intOf x).toNat)
      case atStart => exact ⟨0, B, by omega, rfl, Hpow.out, Hcel.out, Hcells.out⟩
      case round =>
        obtain ⟨i, B, hi, rfl, hpow, hc, hcells⟩ := hrel
        by_cases hlt : i < M.length
        · have c1 := hc.at (j := i) (by omega)
          have Hcells2 := Lib.hid hcells
          cases hb : B.getD i false with
          | false =>
            have Hnew := Lib.hid (Crc.cells_skip hcells hlt hb)
            rw [hb] at c1
            clear hb hcells
            go_wp2_with fail
            go_roundw
            case rel => exact ⟨i + 1, B, by omega, by go_num, hpow, hc, Hnew.out⟩
            case measure => simp [intOf]; omega
          | true =>
            have Hnew := Lib.hid (Crc.cells_turn hcells hlt hb)
            rw [hb] at c1
            clear hb hcells
            go_wp2_with fail
            obtain ⟨wi, rfl⟩ : ∃ wi : World, wi = wr := ⟨_, rfl⟩
            go_loopw [7] (fun x wr => ∃ k : Nat, k ≤ 17 ∧ x = .int .i64 k ∧ Row wr wo.heap.size 3 powCells ∧ Cel w g (M.length + 32) cap (Crc.togg i B (Crc.pows.take k)) wr) (fun x _ => 17 - (intOf x).toNat)
            case atStart => exact ⟨0, by omega, rfl, hpow, hc⟩
            case round =>
              obtain ⟨k, hk, rfl, hpow2, hc2⟩ := hrel
              clear hpow hc c1
              by_cases hlt2 : k < 17
              · obtain ⟨p, hp⟩ : ∃ p, Crc.pows[k]? = some p := ⟨Crc.pows[k]'(by exact hlt2), List.getElem?_eq_getElem _⟩
                have hp28 : p ≤ 32 := Crc.pows_le p (List.mem_of_getElem? hp)
                have hsn : Crc.pows.take (k + 1) = Crc.pows.take k ++ [p] := by
                  obtain ⟨hl, he⟩ := List.getElem?_eq_some_iff.1 hp
                  rw [List.take_succ_eq_append_getElem hl, he]
                have cp : wr.cell? ⟨wo.heap.size, k, none⟩ = some (.int .i64 p) := by rw [hpow2.at]; exact powCells_at k p hp
                have cj := hc2.at (j := i + 32 - p) (by omega)
                have fj := hc2.free (i + 32 - p)
                have hne := hc2.ne hpow2 (by decide)
                have Hset := Lib.hid (hc2.draws.set (i + 32 - p) (!(Crc.togg i B (Crc.pows.take k)).getD (i + 32 - p) false))
                have Hrow := Lib.hid (hpow2.behindDraw.storedElsewhere (p := ⟨g, i + 32 - p, none⟩) hne (.bool (!(Crc.togg i B (Crc.pows.take k)).getD (i + 32 - p) false)))
                have Htg := Lib.hid (show Crc.togg i B (Crc.pows.take (k + 1)) = _ from by rw [hsn, Crc.togg_snoc])
                generalize (Crc.togg i B (Crc.pows.take k)).getD (i + 32 - p) false = y at *
                clear hp hsn hc2 hpow2
                go_wp2_with fail
                go_region
                all_goals
                  go_wp2
                  go_roundw
                  case rel => exact ⟨k + 1, by omega, by go_num, Hrow.out, by rw [Htg.out]; exact Hset.out⟩
                  case measure => simp [intOf]; omega
              · obtain rfl : k = 17 := by omega
                have hfull : Crc.pows.take 17 = Crc.pows := by decide
                rw [hfull] at hc2
                clear hfull
                go_wp2_with fail
                go_roundw
                case rel => exact ⟨i + 1, _, by omega, by go_num, hpow2, hc2, Hnew.out⟩
                case measure => simp [intOf]; omega
        · obtain rfl : M.length = i := by omega
          obtain ⟨X, hX⟩ : ∃ X : Nat, X = (Crc.sum s.data.toList).toNat := ⟨_, rfl⟩
          have hX32 : X < 2 ^ 32 := by rw [hX]; exact BitVec.isLt _
          have hbit : ∀ t, t < 32 → (!B.getD (M.length + t) false) = X.testBit t := fun t ht => by
            rw [Crc.cells_end hcells t ht, ← Hsum.out, hX]; rfl
          have Hbit := Lib.hid hbit
          have HX := Lib.hid hX
          have hX0 : Hid (X / 2 ^ (32 - 0) = 0) := Nat.div_eq_of_lt hX32
          have hXi : (X : Int) ≤ 4294967295 := by omega
          clear hcells hbit hX hX32 hpow
          go_wp2_with fail
          obtain ⟨wi, rfl⟩ : ∃ wi : World, wi = wr := ⟨_, rfl⟩
          go_loopw [8, 10] (fun x y wr => ∃ k : Nat, k ≤ 32 ∧ y = .int .i64 k ∧ x = .int .i64 ((X / 2 ^ (32 - k) : Nat) : Int) ∧ Cel w g (M.length + 32) cap B wr) (fun _ y _ => 32 - (intOf y).toNat)
          case atStart => exact ⟨0, by omega, rfl, by rw [hX0.out]; rfl, hc⟩
          case round =>
            obtain ⟨k, hk, rfl, rfl, hc2⟩ := hrel
            clear hc
            by_cases hlt2 : k < 32
            · obtain ⟨y, hy⟩ : ∃ y, y = X / 2 ^ (32 - k) := ⟨_, rfl⟩
              have hyb : (y : Int) ≤ 4294967295 := by
                have : y ≤ X := by rw [hy]; exact Nat.div_le_self _ _
                omega
              have htop := Crc.top_bit X k hlt2
              have hb31 := Hbit.out (31 - k) (by omega)
              have c1 := hc2.at (j := M.length + 31 - k) (by omega)
              rw [show M.length + (31 - k) = M.length + 31 - k from by omega] at hb31
              rw [← hy] at htop ⊢
              have Hy := Lib.hid hy
              have Htop := Lib.hid htop
              clear hy htop
              cases hbv : B.getD (M.length + 31 - k) false with
              | false =>
                rw [hbv] at c1
                have hnext : Hid (X / 2 ^ (32 - (k + 1)) = y * 2 + 1) := by
                  rw [Htop.out, ← hb31, hbv]; rfl
                clear hb31 hbv
                go_wp2_with fail
                go_roundw
                case rel => exact ⟨k + 1, by omega, by go_num, by rw [hnext.out]; simp, hc2⟩
                case measure => simp [intOf]; omega
              | true =>
                rw [hbv] at c1
                have hnext : Hid (X / 2 ^ (32 - (k + 1)) = y * 2) := by
                  rw [Htop.out, ← hb31, hbv]; rfl
                clear hb31 hbv
                go_wp2_with fail
                go_roundw
                case rel => exact ⟨k + 1, by omega, by go_num, by rw [hnext.out]; simp, hc2⟩
                case measure => simp [intOf]; omega
            · obtain rfl : k = 32 := by omega
              have hfin : Hid (X / 2 ^ (32 - 32) = (Crc.sum s.data.toList).toNat) := by rw [← HX.out]; simp [Hid]
              go_wp2_with fail
              go_ret
              exact ⟨by rw [← hfin.out]; rfl, hc2.2.2.2⟩
end Go.Proofs.Ytlccbebociknaaa
