/- The document's own answer of layer 2: the bits of bytes, and 32 of nought. -/
import Derived.Test.YtlccbebociknaaaFrame
import Derived.Test.YtlccbebociknaaaBase
import Derived.Test.YtlccbebociknaaaCrcMath
import Derived.OwnWalk
import Derived.Lib.Hide
import Derived.Lib.Strings
namespace Go.Proofs.Ytlccbebociknaaa
open Go.RowKit

theorem boolInfo : (Try.prog.info? 4).map (fun i => (i.zero, i.size, i.bytes)) = some (some (.bool false), 1, 1) := by kernel_rfl

def bools (l : List Bool) : List Value := l.map Value.bool

/-- The call's own slice holds these bits. -/
def BitsAt (w : World) (out : List Bool) (v : Value) (wr : World) : Prop := wr.ownsRow w.heap.size 4 1 v out.length (bools out) ∧ Below w.heap.size w wr

theorem bits_start (w : World) : BitsAt w [] (.slice none 0 0) w := ⟨World.ownsRow_nil _ _ _ _, Below.refl _ _⟩

theorem from_own {w : World} {base t size n : Nat} {v : Value} {xs : List Value} (h : w.ownsRow base t size v n xs) : ∀ k, v.ownBlock = some k → base ≤ k := by
  intro k hk
  rcases h.2 with ⟨hv, _⟩ | ⟨g, cap, cur, hv, hb, _⟩
  · rw [hv] at hk; simp [Value.ownBlock] at hk
  · rw [hv] at hk
    have : g = k := by simpa [Value.ownBlock] using hk
    omega

theorem bits_more {w wr w2 : World} {out : List Bool} {v v' : Value} {o : Obj} {x : Bool} (h : BitsAt w out v wr) (hown : w2.ownsRow w.heap.size 4 1 v' (out.length + 1) (bools out ++ [.bool x])) (hg : (wr.alloc o).grownBy w2 v.ownBlock) :
    BitsAt w (out ++ [x]) v' w2 := by
  obtain ⟨h1, h2⟩ := h
  refine ⟨?_, (h2.alloc h2.size o).grown hg (by have := h2.size; simp; omega) (fun k hk => from_own h1 k hk)⟩
  rw [List.length_append]
  simpa [bools] using hown

theorem half_bit (x k : Nat) : x.testBit k = ((x / 2 ^ k : Nat) % 2 == 1) := by
  rw [Nat.testBit_eq_decide_div_mod_eq]
  rfl

set_option maxRecDepth 100000 in
set_option maxHeartbeats 1600000 in
theorem ref_bits (s : ByteArray) (w : World) (hs : s.size ≤ 100000) :
    Calls Try.prog 45 #[.string s] w fun e w' => ∃ v, e = .returned v ∧ BitsAt w (Crc.msg s.data.toList ++ List.replicate 32 false) v w' := by
  obtain ⟨i0, hi, hz0, hz1, hz2⟩ := info_parts boolInfo
  have h0 := bits_start w
  have Hs := Lib.hid hs
  have hs2 : (s.size : Int) ≤ 100000 := by omega
  clear hs
  go_enter Try.func45, Try.ntmps45
  go_wp2_with fail
  go_loopw [3, 4] (fun v i wr => ∃ k : Nat, k ≤ s.size ∧ i = .int .i64 k ∧ BitsAt w (Crc.msg (s.data.toList.take k)) v wr) (fun _ i _ => s.size - (intOf i).toNat)
  case atStart => exact ⟨0, Nat.zero_le _, rfl, h0⟩
  case round =>
    obtain ⟨k, hk, rfl, hrel⟩ := hrel
    clear h0
    by_cases hlt : k < s.size
    · obtain ⟨c, hc⟩ : ∃ c : UInt8, s.data.toList[k]? = some c := ⟨s.data.toList[k]'(by rw [← Lib.size_eq]; exact hlt), List.getElem?_eq_getElem _⟩
      have hidx : ∀ V : World, (Instr.index 9 (.string s) (.int .i64 (k : Int))).run Try.prog V = .ok (.int .u8 ((s[k]'hlt).toNat : Int)) V := fun V => by go_simp
      have hsc : (s[k]'hlt).toNat = c.toNat := by
        obtain ⟨hl, he⟩ := List.getElem?_eq_some_iff.1 hc
        rw [← he, Array.getElem_toList]; rfl
      have hsnoc : s.data.toList.take (k + 1) = s.data.toList.take k ++ [c] := by
        obtain ⟨hl, he⟩ := List.getElem?_eq_some_iff.1 hc
        rw [List.take_succ_eq_append_getElem hl, he]
      have hc256 := c.toNat_lt
      rw [hsc] at hidx
      have Hsnoc := Lib.hid hsnoc
      generalize hx : c.toNat = x at *
      have hx256 : x < 256 := by omega
      have Hx := Lib.hid hx
      clear hsc hsnoc hc hc256 hx
      have hin : BitsAt w (Crc.msg (s.data.toList.take k) ++ (Crc.bitsOf c).take 0) u3 wr := by simpa using hrel
      clear hrel
      go_wp2_with fail
      obtain ⟨wo, rfl⟩ : ∃ wo : World, wo = wr := ⟨_, rfl⟩
      go_loopw [3, 5, 6] (fun v n j wr => ∃ i : Nat, i ≤ 8 ∧ j = .int .i64 i ∧ n = .int .i64 ((x / 2 ^ i : Nat) : Int) ∧ BitsAt w (Crc.msg (s.data.toList.take k) ++ (Crc.bitsOf c).take i) v wr) (fun _ _ j _ => 8 - (intOf j).toNat)
      case atStart => exact ⟨0, by omega, rfl, by simp, hin⟩
      case round =>
        obtain ⟨i, hi8, rfl, rfl, hrel2⟩ := hrel
        clear hin
        by_cases hlt2 : i < 8
        · obtain ⟨y, hy⟩ : ∃ y, y = x / 2 ^ i := ⟨_, rfl⟩
          have hy2 : y ≤ 255 := by rw [hy]; exact Nat.le_trans (Nat.div_le_self _ _) (by omega)
          have hbit : (Crc.bitsOf c).take (i + 1) = (Crc.bitsOf c).take i ++ [(y : Int) % 2 == 1] := by
            have hl : i < (Crc.bitsOf c).length := by rw [Crc.bits_len]; exact hlt2
            rw [List.take_succ_eq_append_getElem hl]
            congr 2
            simp only [Crc.bitsOf, List.getElem_map, List.getElem_range]
            rw [Hx.out, half_bit, ← hy]
            rw [Bool.eq_iff_iff]; simp; omega
          have hnext : x / 2 ^ (i + 1) = y / 2 := by rw [hy, Nat.pow_succ, Nat.div_div_eq_div_mul]
          have hlen : (Crc.msg (s.data.toList.take k) ++ (Crc.bitsOf c).take i).length ≤ 800008 := by
            have := Hs.out
            rw [List.length_append, Crc.msg_len, List.length_take, List.length_take, Crc.bits_len, ← Lib.size_eq]; omega
          rw [← hy]
          have Hy := Lib.hid hy
          have Hbit := Lib.hid hbit
          have Hnext := Lib.hid hnext
          have Hlen := Lib.hid hlen
          have hz := hrel2.2.size
          have hown := hrel2.1
          clear hy hbit hnext hlen
          go_wp2_with (at_builtin; refine wpList_append_own _ rfl _ _ 71 rfl w.heap.size 4 i0 (.bool false) 1 1 Try.underlying71 hi hz0 hz1 hz2 rfl (by decide) _ _ _ rfl (hown.alloc _) ⟨wr.heap.size, 0, none⟩ 1 1 [.bool ((y : Int) % 2 == 1)] rfl rfl ?c1 ?c2 ?c3 ?c4 ?c5 ?_)
          case c1 =>
            intro j u hj
            match j, hj with
            | 0, hj => simp at hj; subst hj; simp [Addr.add]
          case c2 => intro u hu; simp at hu; subst hu; rfl
          case c3 => have := Hlen.out; unfold maxLen; omega
          case c4 => have := Hlen.out; omega
          case c5 => simp; omega
          intro v' w2 hown' hgrow' _
          have hstep := bits_more hrel2 (x := (y : Int) % 2 == 1) (v' := v') (by simpa using hown') hgrow'
          rw [List.append_assoc, ← Hbit.out] at hstep
          clear hown' hgrow' hown hrel2
          go_wp2
          go_roundw
          case rel => exact ⟨i + 1, by omega, by go_num, by rw [Hnext.out]; simp, hstep⟩
          case measure => simp [intOf]; omega
        · obtain rfl : i = 8 := by omega
          have hout : BitsAt w (Crc.msg (s.data.toList.take (k + 1))) u3 wr := by
            rw [Hsnoc.out, Crc.msg_snoc]
            rw [List.take_of_length_le (l := Crc.bitsOf c) (by rw [Crc.bits_len]; exact Nat.le_refl _)] at hrel2
            exact hrel2
          clear hrel2
          go_wp2_with fail
          go_roundw
          case rel => exact ⟨k + 1, by omega, by go_num, hout⟩
          case measure => simp [intOf]; omega
    · obtain rfl : s.size = k := by omega
      have hall : BitsAt w (Crc.msg s.data.toList ++ List.replicate 0 false) u3 wr := by
        rw [List.take_of_length_le (by rw [← Lib.size_eq]; exact Nat.le_refl _)] at hrel
        simpa using hrel
      clear hrel
      go_wp2_with fail
      obtain ⟨wo, rfl⟩ : ∃ wo : World, wo = wr := ⟨_, rfl⟩
      go_loopw [3, 7] (fun v j wr => ∃ i : Nat, i ≤ 32 ∧ j = .int .i64 i ∧ BitsAt w (Crc.msg s.data.toList ++ List.replicate i false) v wr) (fun _ j _ => 32 - (intOf j).toNat)
      case atStart => exact ⟨0, by omega, rfl, hall⟩
      case round =>
        obtain ⟨i, hi32, rfl, hrel2⟩ := hrel
        clear hall
        by_cases hlt2 : i < 32
        · have hlen : (Crc.msg s.data.toList ++ List.replicate i false).length ≤ 800040 := by
            have := Hs.out
            rw [List.length_append, Crc.msg_len, List.length_replicate, ← Lib.size_eq]; omega
          have Hlen := Lib.hid hlen
          have hz := hrel2.2.size
          have hown := hrel2.1
          clear hlen
          go_wp2_with (at_builtin; refine wpList_append_own _ rfl _ _ 71 rfl w.heap.size 4 i0 (.bool false) 1 1 Try.underlying71 hi hz0 hz1 hz2 rfl (by decide) _ _ _ rfl (hown.alloc _) ⟨wr.heap.size, 0, none⟩ 1 1 [.bool false] rfl rfl ?d1 ?d2 ?d3 ?d4 ?d5 ?_)
          case d1 =>
            intro j u hj
            match j, hj with
            | 0, hj => simp at hj; subst hj; simp [Addr.add]
          case d2 => intro u hu; simp at hu; subst hu; rfl
          case d3 => have := Hlen.out; unfold maxLen; omega
          case d4 => have := Hlen.out; omega
          case d5 => simp; omega
          intro v' w2 hown' hgrow' _
          have hstep := bits_more hrel2 (x := false) (v' := v') (by simpa using hown') hgrow'
          rw [List.append_assoc, ← List.replicate_succ'] at hstep
          clear hown' hgrow' hown hrel2
          go_wp2
          go_roundw
          case rel => exact ⟨i + 1, by omega, by go_num, hstep⟩
          case measure => simp [intOf]; omega
        · obtain rfl : i = 32 := by omega
          have Hrel2 := Lib.hid hrel2
          clear hrel2
          go_wp2
          go_ret
          exact ⟨_, rfl, Hrel2.out⟩
end Go.Proofs.Ytlccbebociknaaa
