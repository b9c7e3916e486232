/- The function that lays one field behind what is laid: layer and what it makes. -/
import Derived.Test.YtlccbebociknaaaLayA
import Derived.Lib.AppendStr
import Derived.RegionTactic
import Derived.Deep.RegionLaw
import Derived.Deep.AppendLies
import Derived.KernelRfl
namespace Go.Proofs.Ytlccbebociknaaa
open Go.RowKit

/-- append of a text's bytes, as one step of a region whose order is drawn. -/
theorem step_append_text {P : Program} {ops : Array Oper} {o : Oper} {a : Act} {w : World} {K : Act → World → Prop} {Q : Exit → Act → World → Prop} {E : Prop} (hgd : o.guard = none) (sl x : Operand) (t u : TypeId)
    (hop : o.op = .call { callee := .builtin .append, args := #[sl, x], argTypes := #[t, u] })
    (base : Nat) (e : TypeId) (i : TypeInfo) (ht : P.underlying t = some (.slice e)) (hu : P.underlying u = some .string) (hi : P.info? e = some i) (hz : i.zero = some (.int .u8 0)) (hsize : i.size = 1) (hby : i.bytes = 1)
    (v : Value) (n : Nat) (xs : List Value) (hs : a.eval sl = v) (hown : w.ownsRow base e 1 v n xs) (s : ByteArray) (hx : a.eval x = .string s)
    (h63 : n + s.size ≤ maxLen) (hbytes : n + s.size ≤ 140737488355328) (hbase : base ≤ w.heap.size)
    (h : ∀ v' w', w'.ownsRow base e 1 v' (n + s.size) (xs ++ Lib.strCells s) → w.grownBy w' v.ownBlock → K (a.put o.dst v') w') :
    if Region.wanted o (yielded ops a.tmps) = true then Oper.wp P o a w K Q else E := by
  rw [if_pos (by simp [Region.wanted, hgd])]
  obtain ⟨v', w', hrun, h1, h2, _⟩ := Lib.run_append_own_string (P := P) w base t u o.type e i ht hu hi hz hsize hby v n xs hown s h63 hbytes hbase
  unfold Oper.wp execOp
  simp only [hop, resolve, invoke, builtin, Sem.run_bind, Sem.run_pure, Result.andThen_ok, List.map_toArray, List.map_cons, List.map_nil, hs, hx, hrun]
  exact h v' w' h1 h2

def numOf (n : Int) (s : ByteArray) (t : Bool) : Int := if t then s.size else n
def strOf (s : ByteArray) (t : Bool) : ByteArray := if t then s else ⟨#[]⟩

theorem parts_any (n : Int) (s : ByteArray) (t : Bool) (w : World) :
    Calls Try.prog 39 #[.agg #[.int .i64 n, .string s, .bool t]] w fun e w' => e = .returned (.tuple #[.int .i64 (numOf n s t), .string (strOf s t)]) ∧ Below w.heap.size w w' := by
  cases t
  · exact parts_n n s w
  · exact parts_t n s w

theorem own_shape {w : World} {base t size n : Nat} {v : Value} {xs : List Value} (h : w.ownsRow base t size v n xs) : ∃ A cap, v = .slice A n cap := by
  rcases h.2 with ⟨hv, h0⟩ | ⟨g, cap, cur, hv, _⟩
  · exact ⟨none, 0, by rw [hv, h0]⟩
  · exact ⟨_, cap, hv⟩

/-- What is laid so far: block c holds a pointer to block d, block d the slice, which owns the bytes l. -/
def Laid (w : World) (base c d : Nat) (l : List UInt8) : Prop :=
  Row w c 43 #[.pointer (some ⟨d, 0, none⟩)] ∧ ∃ v, Row w d 38 #[v] ∧ w.ownsRow base 5 1 v l.length (Lib.byteCells l)

theorem Laid.below {w w' : World} {base c d : Nat} {l : List UInt8} (h : Laid w base c d l) (hb : Below w.heap.size w w') : Laid w' base c d l := by
  obtain ⟨h1, v, h2, h3⟩ := h
  refine ⟨h1.below hb h1.inHeap, v, h2.below hb h2.inHeap, h3.kept (gb_below hb none) ?_⟩
  cases hv : v.ownBlock <;> simp

/-- What the laying of one field leaves. -/
def FieldPost (w : World) (base c d : Nat) (l : List UInt8) (n : Int) (s : ByteArray) (e : Ending) (w' : World) : Prop :=
  Below base w w' ∧ (if 65536 - (l.length : Int) < s.size then e = .returned (.bool false) else
    e = .returned (.bool (decide ((l.length : Int) + ((Leb.enc n.toNat).length : Int) + (s.size : Int) ≤ 65536))) ∧ Laid w' base c d (l ++ Leb.enc n.toNat ++ s.data.toList))

theorem field_fin {w w3 : World} {base c d : Nat} {l e : List UInt8} {x : ByteArray} {u0 v3 : Value} (hb : Below base w w3) (hd : base ≤ d)
    (r1 : Row w3 c 43 #[.pointer (some ⟨d, 0, none⟩)]) (r2 : Row w3 d 38 #[u0]) (own : w3.ownsRow base 5 1 v3 (l.length + e.length + x.size) (Lib.byteCells l ++ Lib.byteCells e ++ Lib.strCells x)) :
    Below base w (w3.setCell ⟨d, 0, none⟩ v3) ∧ Laid (w3.setCell ⟨d, 0, none⟩ v3) base c d (l ++ e ++ x.data.toList) ∧
      (w3.setCell ⟨d, 0, none⟩ v3).cell? ⟨c, 0, none⟩ = some (.pointer (some ⟨d, 0, none⟩)) ∧ (w3.setCell ⟨d, 0, none⟩ v3).cell? ⟨d, 0, none⟩ = some v3 := by
  have hcd : d ≠ c := by
    rintro rfl
    have h1 : w3.heap[d]? = _ := r1
    have h2 : w3.heap[d]? = _ := r2
    rw [h1] at h2
    injection h2 with h2
    injection h2 with _ h2
    exact absurd h2 (by decide)
  have k1 : Row (w3.setCell ⟨d, 0, none⟩ v3) c 43 #[.pointer (some ⟨d, 0, none⟩)] := r1.storedElsewhere (p := ⟨d, 0, none⟩) hcd v3
  have k2 : Row (w3.setCell ⟨d, 0, none⟩ v3) d 38 #[v3] := by simpa using r2.stored 0 v3
  refine ⟨hb.setCell (p := ⟨d, 0, none⟩) hd v3, ⟨k1, v3, k2, ?_⟩, k1.at 0, k2.at 0⟩
  have hlen : (l ++ e ++ x.data.toList).length = l.length + e.length + x.size := by rw [List.length_append, List.length_append, ← Lib.size_eq]
  have hcs : Lib.byteCells (l ++ e ++ x.data.toList) = Lib.byteCells l ++ Lib.byteCells e ++ Lib.strCells x := by rw [Lib.byteCells_append, Lib.byteCells_append, Lib.strCells_eq]
  rw [hlen, hcs]
  exact ownsRow_setCell_other own (a := ⟨d, 0, none⟩) (own_other own r2 (by decide)) v3

set_option maxRecDepth 100000 in
set_option maxHeartbeats 3200000 in
theorem layer_field {w : World} {base c d : Nat} {l : List UInt8} (n : Int) (s : ByteArray) (t : Bool) (h : Laid w base c d l) (hd : base ≤ d) (hB : base ≤ w.heap.size) (hl : l.length ≤ 65536)
    (hn : 0 ≤ numOf n s t) (hn2 : numOf n s t < 9223372036854775808) (hs : (strOf s t).size ≤ 9223372036854775807) :
    Calls Try.prog 47 #[.agg #[.int .i64 n, .string s, .bool t], .pointer (some ⟨c, 0, none⟩)] w (FieldPost w base c d l (numOf n s t) (strOf s t)) := by
  obtain ⟨i0, hi, hz0, hz1, hz2⟩ := info_parts byteInfo
  have hparts := fun W => parts_any n s t W
  have Hparts := Lib.hid hparts
  clear hparts
  generalize numOf n s t = q at *
  generalize strOf s t = x at *
  obtain ⟨m, rfl⟩ := Int.eq_ofNat_of_zero_le hn
  have hlaid : ∀ (o : Obj) (W : World), Below (w.alloc o).heap.size (w.alloc o) W → Laid W base c d l ∧ Below base w W := by
    intro o W hW
    have h1 : Below w.heap.size w (w.alloc o) := (Below.refl _ _).alloc (Nat.le_refl _) o
    have h2 : Below w.heap.size w W := h1.trans (hW.mono (by simp))
    exact ⟨h.below h2, h2.mono hB⟩
  have HL := Lib.hid hlaid
  have Hl := Lib.hid hl
  have Hn2 := Lib.hid hn2
  have Hs := Lib.hid hs
  clear hlaid h hn2 hs hn
  by_cases hbig : 65536 - (l.length : Int) < x.size
  · have Hbig := Lib.hid hbig
    have hb : (65536 : Int) - (l.length : Int) < (x.size : Int) := hbig
    have hl0 : (l.length : Int) ≤ 65536 := by omega
    have hs0 : (x.size : Int) ≤ 9223372036854775807 := by have := Hs.out; omega
    clear hbig hl
    go_enter Try.func47, Try.ntmps47
    go_wp2_with (go_at_call 39; refine (Hparts.out _).mono ?_; rintro e w1 ⟨rfl, hb1⟩; obtain ⟨⟨r1, v, r2, own⟩, hbel⟩ := HL.out _ w1 hb1; obtain ⟨A, cap, rfl⟩ := own_shape own; have c1 : w1.cell? ⟨c, 0, none⟩ = some (.pointer (some ⟨d, 0, none⟩)) := r1.at 0; have c2 : w1.cell? ⟨d, 0, none⟩ = some (.slice A l.length cap) := r2.at 0)
    go_ret
    refine ⟨hbel, ?_⟩
    rw [if_pos Hbig.out]
    rfl
  · have Hbig := Lib.hid hbig
    have hb : decide ((65536 : Int) - (l.length : Int) < (x.size : Int)) = false := by simpa using hbig
    have hl0 : (l.length : Int) ≤ 65536 := by omega
    clear hbig hl
    go_enter Try.func47, Try.ntmps47
    go_wp2_with (go_at_call 39; refine (Hparts.out _).mono ?_; rintro e w1 ⟨rfl, hb1⟩; obtain ⟨⟨r1, v, r2, own⟩, hbel⟩ := HL.out _ w1 hb1; obtain ⟨A, cap, rfl⟩ := own_shape own; have c1 : w1.cell? ⟨c, 0, none⟩ = some (.pointer (some ⟨d, 0, none⟩)) := r1.at 0; have c2 : w1.cell? ⟨d, 0, none⟩ = some (.slice A l.length cap) := r2.at 0)
    have hen := (Leb.enc_len m).2
    have hx9 : l.length + (Leb.enc m).length + x.size ≤ 200000 := by have := Hbig.out; omega
    have e63 : l.length + (Leb.enc m).length + x.size ≤ maxLen := by unfold maxLen; omega
    have e47 : l.length + (Leb.enc m).length + x.size ≤ 140737488355328 := by omega
    have hm63 : m < 9223372036854775808 := by have := Hn2.out; omega
    have hz1' : base ≤ w1.heap.size := by have := hbel.size; omega
    have E63 := Lib.hid e63
    have E47 := Lib.hid e47
    have M63 := Lib.hid hm63
    clear hx9 e63 e47 hm63 hb hl0 hen
    go_region_law
      (first
        | (refine step_append_text (by rfl) _ _ _ _ (by rfl) base 5 i0 Try.underlying38 Try.underlying9 hi hz0 hz1 hz2 v2 _ _ (by rfl) own2 x (by rfl) E63.out E47.out (Nat.le_trans hz1' hb2.size) ?_
           intro v3 w3 own3 hg3
           obtain ⟨A3, cap3, rfl⟩ := own_shape own3
           have hsp3 := Spares.grown own2 hg3
           have hb3 : Below base w2 w3 := (Below.refl _ _).grown hg3 (Nat.le_trans hz1' hb2.size) (fun k hk => own_from own2 k hk)
           have c4 : w3.cell? ⟨c, 0, none⟩ = some (.pointer (some ⟨d, 0, none⟩)) := (hsp3 c _ _ (by decide) (hsp2 c _ _ (by decide) r1)).at 0
           have d4 : w3.cell? ⟨d, 0, none⟩ = some (.slice A l.length cap) := (hsp3 d _ _ (by decide) (hsp2 d _ _ (by decide) r2)).at 0
           have e4 := (hsp3 d _ _ (by decide) (hsp2 d _ _ (by decide) r2)).free 0)
        | (go_simp
           go_at_call 48
           refine (append_number (w := w1.drew) (base := base) (n := l.length) (xs := Lib.byteCells l) own Hl.out M63.out hz1').mono ?_
           rintro e w2 ⟨v2, rfl, own2, hb2, hsp2⟩
           have c3 : w2.cell? ⟨c, 0, none⟩ = some (.pointer (some ⟨d, 0, none⟩)) := (hsp2 c _ _ (by decide) r1).at 0
           have d3 : w2.cell? ⟨d, 0, none⟩ = some (.slice A l.length cap) := (hsp2 d _ _ (by decide) r2).at 0))
    all_goals
      obtain ⟨hB9, hL9, c9, d9⟩ := field_fin ((hbel.drew.trans hb2).trans hb3) hd (hsp3 c _ _ (by decide) (hsp2 c _ _ (by decide) r1)) (hsp3 d _ _ (by decide) (hsp2 d _ _ (by decide) r2)) own3
      have HB9 := Lib.hid hB9
      clear hb3 hsp3 c4 d4 e4 own3 hg3 c3 d3 own2 hb2 hsp2 hbel own hB9
      go_wp2
      go_ret
      refine ⟨HB9.out, ?_⟩
      rw [if_neg (by have := Hbig.out; omega)]
      exact ⟨rfl, hL9⟩
end Go.Proofs.Ytlccbebociknaaa
