/- What the statements of layer 2 make: the lesser of two, three texts added without carry, the four bytes of a number. -/
import Derived.Test.YtdepbgmhpfifmaaCrcSum
import Derived.Deep.RegionLaw
import Derived.Deep.AppendLies
import Derived.Lib.BufferRead
import Derived.Laws.BitsAllLaws
import Derived.Lib.AppendStr
namespace Go.Proofs.Ytdepbgmhpfifmaa
open Go.RowKit

theorem low_any (a b : Int) (w : World) : Calls Try.prog 12 #[.int .i64 a, .int .i64 b] w fun e w' => e = .returned (.int .i64 (if a < b then a else b)) ∧ w = w' := by
  by_cases h : a < b
  · rw [if_pos h]
    go_enter Try.func12, Try.ntmps12
    go_wp2
    go_ret
    exact ⟨rfl, rfl⟩
  · rw [if_neg h]
    have h2 : decide (a < b) = false := by simpa using h
    clear h
    go_enter Try.func12, Try.ntmps12
    go_wp2
    go_ret
    exact ⟨rfl, rfl⟩

/-- The four bytes of a number, the lowest first. -/
def fourOf (n : Nat) : List UInt8 := [UInt8.ofNat (n % 256), UInt8.ofNat (n / 256 % 256), UInt8.ofNat (n / 65536 % 256), UInt8.ofNat (n / 16777216)]

theorem u8_num (n : Nat) (h : n < 256) : (UInt8.ofNat n).toNat = n := by rw [UInt8.toNat_ofNat']; omega

/-- Four bytes in a row of their own, as a text. -/
theorem run_four (W : World) (a b c d : Nat) (ha : a < 256) (hb : b < 256) (hc : c < 256) (hd : d < 256) :
    (convert 32 9 (.slice (some ⟨W.heap.size, 0, none⟩) 4 4)).run Try.prog (W.alloc (.cells #[.int .u8 a, .int .u8 b, .int .u8 c, .int .u8 d] 5)) =
      .ok (.string ⟨#[UInt8.ofNat a, UInt8.ofNat b, UInt8.ofNat c, UInt8.ofNat d]⟩) (W.alloc (.cells #[.int .u8 a, .int .u8 b, .int .u8 c, .int .u8 d] 5)) := by
  have hr := Row.made W 5 #[.int .u8 a, .int .u8 b, .int .u8 c, .int .u8 d]
  refine run_convert_bytes_back (P := Try.prog) _ 32 9 5 ⟨W.heap.size, 0, none⟩ 4 [UInt8.ofNat a, UInt8.ofNat b, UInt8.ofNat c, UInt8.ofNat d] Try.underlying32 Try.underlying5 Try.underlying9 (fun j hj => ?_)
  rw [Go.WideShapes.add_plain, hr.at]
  match j, hj with
  | 0, _ => simp [u8_num a ha]
  | 1, _ => simp [u8_num b hb]
  | 2, _ => simp [u8_num c hc]
  | 3, _ => simp [u8_num d hd]

set_option maxRecDepth 100000 in
set_option maxHeartbeats 800000 in
theorem ref_four (s : ByteArray) (w : World) (hs : s.size ≤ 600) :
    Calls Try.prog 7 #[.string s] w fun e w' => e = .returned (.string ⟨(fourOf (Crc.sum s.data.toList).toNat).toArray⟩) ∧ Below w.heap.size w w' := by
  have hsum := fun W => ref_sum s W hs
  have Hsum := Lib.hid hsum
  obtain ⟨X, hX⟩ : ∃ X : Nat, X = (Crc.sum s.data.toList).toNat := ⟨_, rfl⟩
  have hX32 : X < 4294967296 := by rw [hX]; exact BitVec.isLt _
  rw [← hX] at hsum ⊢
  have Hsum2 := Lib.hid hsum
  obtain ⟨a, ha⟩ : ∃ a : Nat, a = X % 256 := ⟨_, rfl⟩
  obtain ⟨b, hb⟩ : ∃ b : Nat, b = X / 256 % 256 := ⟨_, rfl⟩
  obtain ⟨c, hc⟩ : ∃ c : Nat, c = X / 65536 % 256 := ⟨_, rfl⟩
  obtain ⟨d, hd⟩ : ∃ d : Nat, d = X / 16777216 := ⟨_, rfl⟩
  have e1 : (X : Int) % 256 = (a : Int) := by omega
  have e2 : (X : Int) / 256 % 256 = (b : Int) := by omega
  have e3 : (X : Int) / 65536 % 256 = (c : Int) := by omega
  have e4 : (X : Int) / 16777216 = (d : Int) := by omega
  have a1 : a < 256 := by omega
  have b1 : b < 256 := by omega
  have c1 : c < 256 := by omega
  have d1 : d < 256 := by omega
  have hconv := fun W => run_four W a b c d a1 b1 c1 d1
  have hfin : Hid (fourOf X = [UInt8.ofNat a, UInt8.ofNat b, UInt8.ofNat c, UInt8.ofNat d]) := by rw [ha, hb, hc, hd]; rfl
  have hX63 : (X : Int) ≤ 4294967295 := by omega
  clear hsum ha hb hc hd hX hX32
  go_enter Try.func7, Try.ntmps7
  go_wp2_with (go_at_call 10; refine (Hsum2.out _).mono ?_; rintro e w1 ⟨rfl, hb1⟩)
  go_ret
  exact ⟨by rw [hfin.out]; rfl, hb1.alloc hb1.size _⟩

/-! ### Three texts added without carry -/
def add3 (a b c : List UInt8) : List UInt8 := List.zipWith (· ^^^ ·) (List.zipWith (· ^^^ ·) a b) c

theorem byteInfo2 : (Try.prog.info? 5).map (fun i => (i.zero, i.size, i.bytes)) = some (some (.int .u8 0), 1, 1) := by kernel_rfl

def ThreeAt (w : World) (D : List UInt8) (k : Nat) (v : Value) (wr : World) : Prop := wr.ownsRow w.heap.size 5 1 v k (Lib.byteCells (D.take k)) ∧ Below w.heap.size w wr

theorem three_more {w wr w2 : World} {D : List UInt8} {k : Nat} {v v' : Value} {o : Obj} {x : UInt8} (h : ThreeAt w D k v wr) (hx : D[k]? = some x) (hown : w2.ownsRow w.heap.size 5 1 v' (k + 1) (Lib.byteCells (D.take k) ++ [.int .u8 x.toNat]))
    (hg : (wr.alloc o).drew.grownBy w2 v.ownBlock) : ThreeAt w D (k + 1) v' w2 := by
  obtain ⟨h1, h2⟩ := h
  have h3 := h2.alloc h2.size o
  have h4 : Below w.heap.size w (wr.alloc o).drew := ⟨h3.os, h3.tape, h3.output, h3.size, h3.block⟩
  refine ⟨?_, h4.grown hg h4.size (fun k hk => from_own h1 k hk)⟩
  obtain ⟨hl, he⟩ := List.getElem?_eq_some_iff.1 hx
  rw [List.take_succ_eq_append_getElem hl, he, Lib.byteCells_append]
  exact hown

/-- A byte laid into a block of its own and appended, in a region that draws its order. -/
theorem step_byte {ops : Array Oper} {o : Oper} {a : Act} {w wr : World} {K : Act → World → Prop} {Q : Exit → Act → World → Prop} {E : Prop} (hgd : o.guard = none) (s x : Operand)
    (ho : o.op = .call { callee := .builtin .append, args := #[s, x], argTypes := #[32, 32] })
    (v : Value) (k : Nat) (q : Int) (xs : List Value) (hs : a.eval s = v) (hx : a.eval x = .slice (some ⟨wr.heap.size, 0, none⟩) 1 1)
    (hown : wr.ownsRow w.heap.size 5 1 v k xs) (hbase : w.heap.size ≤ wr.heap.size) (hk : k + 1 ≤ 140737488351232)
    (h : ∀ v' w', w'.ownsRow w.heap.size 5 1 v' (k + 1) (xs ++ [.int .u8 q]) → (wr.alloc (.cells #[.int .u8 q] 5)).drew.grownBy w' v.ownBlock → K (a.put o.dst v') w') :
    if Region.wanted o (yielded ops a.tmps) = true then Oper.wp Try.prog o a (wr.alloc (.cells #[.int .u8 q] 5)).drew K Q else E := by
  obtain ⟨i0, hi, hz0, hz1, hz2⟩ := info_parts byteInfo2
  refine step_append_lies _ hgd s x _ ho w.heap.size 5 i0 (.int .u8 0) 1 1 Try.underlying32 hi hz0 hz1 hz2 rfl (by decide) v k xs hs (hown.alloc _).drew ⟨wr.heap.size, 0, none⟩ 1 1 [.int .u8 q] hx (by rfl) (World.news_of_block (cs := #[.int .u8 q]) (t := 5) (fr := (0, 0)) (heap_alloc_new wr _)) (by simp [Value.oneCell']) (by decide) (by unfold maxLen; omega) (by omega) (Nat.le_trans hbase (by simp)) _ rfl ?_
  intro g2 cap2 w2 hown2 hg2 _ _
  exact h _ _ hown2 hg2

theorem text_of {w : World} {base : Nat} {v : Value} {l : List UInt8} (h : w.ownsRow base 5 1 v l.length (Lib.byteCells l)) :
    (convert 32 9 v).run Try.prog w = .ok (.string ⟨l.toArray⟩) w := by
  rcases h.2 with ⟨hv, h0⟩ | ⟨g, cap, cur, hv, _⟩
  · have : l = [] := List.eq_nil_of_length_eq_zero h0
    subst this
    rw [hv]
    exact Lib.run_convert_nil_bytes (P := Try.prog) w 32 9 5 0 Try.underlying32 Try.underlying5 Try.underlying9
  · have hcells := h.cells (g := g) (by rw [hv]; rfl)
    rw [hv]
    refine run_convert_bytes_back (P := Try.prog) w 32 9 5 ⟨g, 0, none⟩ cap l Try.underlying32 Try.underlying5 Try.underlying9 (fun j hj => hcells j _ ?_)
    simp [Lib.byteCells, hj]

theorem idx (s : ByteArray) (k : Nat) (h : k < s.size) : ∃ c : UInt8, s.data.toList[k]? = some c ∧ ∀ V : World, (Instr.index 9 (.string s) (.int .i64 (k : Int))).run Try.prog V = .ok (.int .u8 (c.toNat : Int)) V := by
  refine ⟨s[k]'h, ?_, fun V => by go_simp⟩
  rw [List.getElem?_eq_getElem (by rw [← Lib.size_eq]; exact h), Array.getElem_toList]
  rfl

set_option maxRecDepth 100000 in
set_option maxHeartbeats 1600000 in
theorem three_any (a b c : ByteArray) (w : World) (hb : b.size = a.size) (hc : c.size = a.size) (hn : a.size ≤ 140737488351232) :
    Calls Try.prog 13 #[.string a, .string b, .string c] w fun e w' => e = .returned (.string ⟨(add3 a.data.toList b.data.toList c.data.toList).toArray⟩) ∧ Below w.heap.size w w' := by
  obtain ⟨i0, hi, hz0, hz1, hz2⟩ := info_parts byteInfo2
  obtain ⟨D, hD⟩ : ∃ D, D = add3 a.data.toList b.data.toList c.data.toList := ⟨_, rfl⟩
  have hDl : D.length = a.size := by
    rw [hD]; unfold add3
    rw [List.length_zipWith, List.length_zipWith, ← Lib.size_eq, ← Lib.size_eq, ← Lib.size_eq, hb, hc]; omega
  have HD := Lib.hid hD
  have HDl := Lib.hid hDl
  have Hb := Lib.hid hb
  have Hc := Lib.hid hc
  rw [← hD]
  have h0 : ThreeAt w D 0 (.slice none 0 0) w := ⟨by simpa [Lib.byteCells] using World.ownsRow_nil _ _ _ _, Below.refl _ _⟩
  have hni : (a.size : Int) ≤ 140737488351232 := by omega
  clear hD hDl hb hc
  go_enter Try.func13, Try.ntmps13
  go_wp2_with fail
  go_loopw [7, 8] (fun v x wr => ∃ k : Nat, k ≤ a.size ∧ x = .int .i64 k ∧ ThreeAt w D k v wr) (fun _ x _ => a.size - (intOf x).toNat)
  case atStart => exact ⟨0, Nat.zero_le _, rfl, h0⟩
  case round =>
    obtain ⟨k, hk, rfl, hrel⟩ := hrel
    clear h0
    by_cases hlt : k < a.size
    · obtain ⟨x, hx, ix⟩ := idx a k hlt
      obtain ⟨y, hy, iy⟩ := idx b k (by rw [Hb.out]; exact hlt)
      obtain ⟨z, hz, iz⟩ := idx c k (by rw [Hc.out]; exact hlt)
      have hd : D[k]? = some (x ^^^ y ^^^ z) := by
        rw [HD.out]; unfold add3
        rw [List.getElem?_zipWith, List.getElem?_zipWith, hx, hy, hz]
      obtain ⟨m, hm⟩ : ∃ m : Nat, m = (x ^^^ y).toNat := ⟨_, rfl⟩
      obtain ⟨q, hq⟩ : ∃ q : Nat, q = (x ^^^ y ^^^ z).toNat := ⟨_, rfl⟩
      have hx256 := x.toNat_lt
      have hy256 := y.toNat_lt
      have hz256 := z.toNat_lt
      have hm256 : m < 256 := by rw [hm]; exact (x ^^^ y).toNat_lt
      have b1 : bits .xor .u8 (x.toNat : Int) (y.toNat : Int) = (m : Int) := by rw [u8_xor_nat _ _ hx256 hy256, hm, UInt8.toNat_xor]
      have b2 : bits .xor .u8 (m : Int) (z.toNat : Int) = (q : Int) := by rw [u8_xor_nat _ _ hm256 hz256, hm, hq, UInt8.toNat_xor (x ^^^ y) z]
      have Hd := Lib.hid hd
      have Hq := Lib.hid hq
      generalize x.toNat = xn at *
      generalize y.toNat = yn at *
      generalize z.toNat = zn at *
      have hown := hrel.1
      have hzz := hrel.2.size
      have hk1 : k + 1 ≤ 140737488351232 := by omega
      clear hx hy hz hd hm hq hx256 hy256 hz256 hm256
      go_wp2_with fail
      go_region_law (first
        | (refine step_byte (by rfl) _ _ (by rfl) _ _ (q : Int) _ (by rfl) (by rfl) hown hzz hk1 ?_
           intro v2 w2 hown2 hg2))
      all_goals go_wp2_with fail
      all_goals refine ⟨?_, ?_⟩
      all_goals (first
        | (exact ⟨k + 1, by omega, rfl, three_more hrel Hd.out (by rw [← Hq.out]; exact hown2) hg2⟩)
        | (show a.size - ((k : Int) + 1).toNat < a.size - (k : Int).toNat; omega))
    · have hkk : k = D.length := by rw [HDl.out]; omega
      have conv : (convert 32 9 u7).run Try.prog wr = .ok (.string ⟨D.toArray⟩) wr := text_of (base := w.heap.size) (by
        have := hrel.1
        rw [List.take_of_length_le (by omega)] at this
        rw [← hkk]
        exact this)
      have hbel := hrel.2
      clear hrel hkk
      go_wp2_with fail
      go_ret
      exact ⟨rfl, hbel⟩
end Go.Proofs.Ytdepbgmhpfifmaa
