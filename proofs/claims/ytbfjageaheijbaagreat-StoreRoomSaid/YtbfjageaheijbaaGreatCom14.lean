/- The small functions of laying: N, T, parts, appendNumber. -/
import Derived.Test.YtbfjageaheijbaaGreatCom13
import Derived.Laws.ResultCell
import Derived.OwnWalk
import Derived.Outline
import Derived.Lib.AppendStr
import Derived.RegionTactic
import Derived.Deep.RegionLaw
import Derived.Deep.AppendLies
import Derived.KernelRfl
import Derived.Lib.BufferRead
namespace Go.Proofs.YtbfjageaheijbaaGreat
open Go.RowKit

set_option maxRecDepth 100000 in
theorem field_n (n : Int) (w : World) :
    Calls Tryz.prog 96 #[.int .i64 n] w fun e w' => e = .returned (.agg #[.int .i64 n, .string ⟨#[]⟩, .bool false]) ∧ Below w.heap.size w w' := by
  go_enter Tryz.func96, Tryz.ntmps96
  go_wp2
  refine bodyPost_ret (v := .agg #[.int .i64 n, .string ⟨#[]⟩, .bool false]) (by simp [results, Tryz.results96, go_sem]) rfl ⟨rfl, (Below.refl _ _).alloc (Nat.le_refl _) _⟩

set_option maxRecDepth 100000 in
theorem field_t (s : ByteArray) (w : World) :
    Calls Tryz.prog 95 #[.string s] w fun e w' => e = .returned (.agg #[.int .i64 0, .string s, .bool true]) ∧ Below w.heap.size w w' := by
  go_enter Tryz.func95, Tryz.ntmps95
  go_wp2
  refine bodyPost_ret (v := .agg #[.int .i64 0, .string s, .bool true]) (by simp [results, Tryz.results95, go_sem]) rfl ⟨rfl, (Below.refl _ _).alloc (Nat.le_refl _) _⟩

set_option maxRecDepth 100000 in
theorem parts_n (n : Int) (s : ByteArray) (w : World) :
    Calls Tryz.prog 116 #[.agg #[.int .i64 n, .string s, .bool false]] w fun e w' => e = .returned (.tuple #[.int .i64 n, .string ⟨#[]⟩]) ∧ Below w.heap.size w w' := by
  go_enter Tryz.func116, Tryz.ntmps116
  go_wp2
  go_ret2
  exact ⟨rfl, by repeat (first | exact Below.refl _ _ | apply Below.drew | refine Below.alloc ?_ (Nat.le_refl _) _)⟩

set_option maxRecDepth 100000 in
theorem parts_t (n : Int) (s : ByteArray) (w : World) :
    Calls Tryz.prog 116 #[.agg #[.int .i64 n, .string s, .bool true]] w fun e w' => e = .returned (.tuple #[.int .i64 s.size, .string s]) ∧ Below w.heap.size w w' := by
  go_enter Tryz.func116, Tryz.ntmps116
  go_wp2
  go_quiet (fail)
  go_wp2
  go_ret2
  exact ⟨rfl, ⟨rfl, rfl, rfl, by simp, fun k hk => Below.heap_alloc _ _ _ hk⟩⟩

/-- Rows of other element types than t stay. -/
def Spares (t : TypeId) (w w' : World) : Prop := ∀ (b : Nat) (u : TypeId) (cs : Array Value), u ≠ t → Row w b u cs → Row w' b u cs

set_option maxRecDepth 100000 in
theorem Spares.same (t : TypeId) (w : World) : Spares t w w := fun _ _ _ _ h => h
set_option maxRecDepth 100000 in
theorem Spares.then_ {t : TypeId} {a b c : World} (h : Spares t a b) (k : Spares t b c) : Spares t a c := fun i u cs hu hr => k i u cs hu (h i u cs hu hr)
set_option maxRecDepth 100000 in
theorem Spares.draws {t : TypeId} {a w : World} (h : Spares t a w) (n : Nat) : Spares t a (w.drewN n) := h
set_option maxRecDepth 100000 in
theorem Spares.new {t : TypeId} {a w : World} (h : Spares t a w) (o : Obj) : Spares t a (w.alloc o) := fun i u cs hu hr => (h i u cs hu hr).behindNew o
set_option maxRecDepth 100000 in
theorem Spares.below {t : TypeId} {w w' : World} (h : Below w.heap.size w w') : Spares t w w' := fun _ _ _ _ hr => hr.below h hr.inHeap

set_option maxRecDepth 100000 in
/-- An owned row of type t is no row of another type. -/
theorem own_other {w : World} {base : Nat} {t : TypeId} {size n : Nat} {v : Value} {xs : List Value} (h : w.ownsRow base t size v n xs) {b : Nat} {u : TypeId} {cs : Array Value} (hr : Row w b u cs) (hu : u ≠ t) : v.ownBlock ≠ some b := by
  rcases h.2 with ⟨hv, _⟩ | ⟨g, cap, cur, hv, _, hh, _⟩
  · rw [hv]; simp [Value.ownBlock]
  · rw [hv]
    intro he
    have e : g = b := by simpa [Value.ownBlock] using he
    rw [e] at hh
    have h2 : w.heap[b]? = some (Obj.cells cs u (0, 0)) := hr
    rw [h2] at hh
    injection hh with hh
    injection hh with _ ht
    exact hu ht

set_option maxRecDepth 100000 in
theorem Spares.grown {t : TypeId} {w w' : World} {base size n : Nat} {v : Value} {xs : List Value} (h : w.ownsRow base t size v n xs) (hg : w.grownBy w' v.ownBlock) : Spares t w w' :=
  fun _ _ _ hu hr => hr.grown hg (own_other h hr hu)

set_option maxRecDepth 100000 in
theorem own_from {w : World} {base t size n : Nat} {v : Value} {xs : List Value} (h : w.ownsRow base t size v n xs) : ∀ k, v.ownBlock = some k → base ≤ k := by
  intro k hk
  rcases h.2 with ⟨hv, _⟩ | ⟨g, cap, cur, hv, hb, _⟩
  · rw [hv] at hk; simp [Value.ownBlock] at hk
  · rw [hv] at hk
    have : g = k := by simpa [Value.ownBlock] using hk
    omega

/-- What laying leaves: a value that owns so many bytes more; nothing older than base has turned, nor a row of another type. -/
def LaidPost (w : World) (base : Nat) (n : Nat) (xs : List Value) (news : List UInt8) (e : Ending) (w' : World) : Prop :=
  ∃ v, e = .returned v ∧ w'.ownsRow base 5 1 v (n + news.length) (xs ++ Lib.byteCells news) ∧ Below base w w' ∧ Spares 5 w w'

def NumLoop (w : World) (base n : Nat) (xs : List Value) (l : List UInt8) (v : Value) (m : Nat) (wr : World) : Prop :=
  ∃ (f : Nat) (pre : List UInt8), m < 128 ^ (f + 1) ∧ f ≤ 8 ∧ pre ++ Leb.encF f m = l ∧ wr.ownsRow base 5 1 v (n + pre.length) (xs ++ Lib.byteCells pre) ∧ Below base w wr ∧ Spares 5 w wr

set_option maxRecDepth 100000 in
theorem num_more {w wr w2 : World} {base n m' : Nat} {xs : List Value} {l pre : List UInt8} {f : Nat} {v v' : Value} (hbig : 127 < m') (hf : m' < 128 ^ (f + 1)) (hf8 : f ≤ 8) (hpre : pre ++ Leb.encF f m' = l)
    (hB : base ≤ w.heap.size) (hbel : Below base w wr) (hsp : Spares 5 w wr) (hown : wr.ownsRow base 5 1 v (n + pre.length) (xs ++ Lib.byteCells pre)) {o : Obj}
    (hown' : w2.ownsRow base 5 1 v' (n + pre.length + 1) (xs ++ (Lib.byteCells pre ++ [Value.int .u8 ((m' % 128 + 128 : Nat) : Int)]))) (hg : (wr.alloc o).grownBy w2 v.ownBlock) :
    NumLoop w base n xs l v' (m' / 128) w2 := by
  cases f with
  | zero => simp at hf; omega
  | succ f =>
    have hs := hbel.size
    refine ⟨f, pre ++ [UInt8.ofNat (m' % 128 + 128)], ?_, by omega, ?_, ?_, ?_, ?_⟩
    · rw [Nat.div_lt_iff_lt_mul (by omega), ← Nat.pow_succ]; exact hf
    · rw [← hpre, Leb.encF, if_neg (by omega)]; simp
    · have e : Lib.byteCells (pre ++ [UInt8.ofNat (m' % 128 + 128)]) = Lib.byteCells pre ++ [Value.int .u8 ((m' % 128 + 128 : Nat) : Int)] := by
        rw [Lib.byteCells_append]
        simp only [Lib.byteCells, List.map_cons, List.map_nil, Leb.toNat_ofNat (m' % 128 + 128) (by omega)]
      rw [e, List.length_append]
      exact hown'
    · exact (hbel.alloc (by omega) o).grown hg (by simp; omega) (fun k hk => own_from hown k hk)
    · exact (hsp.new o).then_ (Spares.grown (hown.alloc o) hg)

set_option maxRecDepth 100000 in
theorem num_done {w wr w2 : World} {base n m' : Nat} {xs : List Value} {l pre : List UInt8} {f : Nat} {v v' : Value} (hbig : ¬ 127 < m') (hpre : pre ++ Leb.encF f m' = l)
    (hB : base ≤ w.heap.size) (hbel : Below base w wr) (hsp : Spares 5 w wr) (hown : wr.ownsRow base 5 1 v (n + pre.length) (xs ++ Lib.byteCells pre)) {o : Obj}
    (hown' : w2.ownsRow base 5 1 v' (n + pre.length + 1) (xs ++ (Lib.byteCells pre ++ [Value.int .u8 (m' : Int)]))) (hg : (wr.alloc o).grownBy w2 v.ownBlock) :
    LaidPost w base n xs l (.returned v') w2 := by
  have hs := hbel.size
  have he : Leb.encF f m' = [UInt8.ofNat m'] := by
    cases f with
    | zero => rfl
    | succ f => rw [Leb.encF, if_pos (by omega)]
  rw [he] at hpre
  refine ⟨v', rfl, ?_, (hbel.alloc (by omega) o).grown hg (by simp; omega) (fun k hk => own_from hown k hk), (hsp.new o).then_ (Spares.grown (hown.alloc o) hg)⟩
  have e : Lib.byteCells l = Lib.byteCells pre ++ [Value.int .u8 (m' : Int)] := by
    rw [← hpre, Lib.byteCells_append]
    simp only [Lib.byteCells, List.map_cons, List.map_nil, Leb.toNat_ofNat m' (by omega)]
  rw [e, ← hpre, List.length_append]
  exact hown'

set_option maxRecDepth 100000 in
theorem byteInfo : (Tryz.prog.info? 5).map (fun i => (i.zero, i.size, i.bytes)) = some (some (.int .u8 0), 1, 1) := by kernel_rfl

set_option maxRecDepth 100000 in
set_option maxHeartbeats 800000 in
theorem append_number {w : World} {base n m : Nat} {v : Value} {xs : List Value} (hown : w.ownsRow base 5 1 v n xs) (hn : n ≤ 65536) (hm : m < 9223372036854775808) (hB : base ≤ w.heap.size) :
    Calls Tryz.prog 137 #[v, .int .i64 m] w (LaidPost w base n xs (Leb.enc m)) := by
  obtain ⟨i0, hi, hz0, hz1, hz2⟩ := info_parts byteInfo
  have h0 : NumLoop w base n xs (Leb.enc m) v m w := ⟨8, [], by simpa using hm, by omega, rfl, by simpa [Lib.byteCells] using hown, Below.refl _ _, Spares.same _ _⟩
  clear hown
  go_enter Tryz.func137, Tryz.ntmps137
  go_wp2_with fail
  go_loopw [0, 1] (fun b x wr => ∃ m' : Nat, x = .int .i64 m' ∧ m' ≤ m ∧ NumLoop w base n xs (Leb.enc m) b m' wr) (fun _ x _ => (intOf x).toNat)
  case atStart => exact ⟨m, rfl, Nat.le_refl _, h0⟩
  case round =>
    obtain ⟨m', rfl, hm', f, pre, hf, hf8, hpre, hown, hbel, hsp⟩ := hrel
    have Hf := Lib.hid hf
    have Hpre := Lib.hid hpre
    have hpl : pre.length ≤ 9 := by
      have := (Leb.enc_len m).2
      rw [← hpre, List.length_append] at this
      omega
    have Hsz := Lib.hid hbel.size
    clear hf hpre
    by_cases hbig : 127 < m'
    · obtain ⟨d, hd⟩ : ∃ d : Nat, d = m' % 128 := ⟨_, rfl⟩
      obtain ⟨g, hg⟩ : ∃ g : Nat, g = d + 128 := ⟨_, rfl⟩
      have hd1 : d < 128 := by omega
      have ha : bits .and .i64 (m' : Int) 127 = (d : Int) := by rw [i64_and127, hd]; rfl
      have ho : bits .or .u8 (d : Int) 128 = (g : Int) := by rw [u8_or128_right _ (by omega) (by omega), hg]; rfl
      have Hd := Lib.hid hd
      have Hg := Lib.hid hg
      clear hd hg
      go_wp2_with (at_builtin; refine wpList_append_own _ rfl _ _ 99 rfl base 5 i0 (.int .u8 0) 1 1 Tryz.underlying99 hi hz0 hz1 hz2 rfl (by decide) _ _ _ rfl (hown.alloc _) ⟨wr.heap.size, 0, none⟩ 1 1 [.int .u8 (g : Int)] rfl rfl ?c1 ?c2 ?c3 ?c4 ?c5 ?_)
      case c1 =>
        intro j u hj
        match j, hj with
        | 0, hj => simp at hj; subst hj; simp [Addr.add]
      case c2 => intro u hu; simp at hu; subst hu; rfl
      case c3 => unfold maxLen; omega
      case c4 => omega
      case c5 => have := Hsz.out; simp; omega
      intro v' w2 hown' hgrow' _
      have hstep := num_more hbig Hf.out hf8 Hpre.out hB hbel hsp hown (v' := v') (by rw [← Hd.out, ← Hg.out]; simpa using hown') hgrow'
      clear hown' hgrow' hown
      go_wp2
      go_roundw
      case rel => exact ⟨m' / 128, by simp, by omega, hstep⟩
      case measure => simp [intOf]; omega
    · go_wp2_with (at_builtin; refine wpList_append_own _ rfl _ _ 99 rfl base 5 i0 (.int .u8 0) 1 1 Tryz.underlying99 hi hz0 hz1 hz2 rfl (by decide) _ _ _ rfl (hown.alloc _) ⟨wr.heap.size, 0, none⟩ 1 1 [.int .u8 (m' : Int)] rfl rfl ?d1 ?d2 ?d3 ?d4 ?d5 ?_)
      case d1 =>
        intro j u hj
        match j, hj with
        | 0, hj => simp at hj; subst hj; simp [Addr.add]
      case d2 => intro u hu; simp at hu; subst hu; rfl
      case d3 => unfold maxLen; omega
      case d4 => omega
      case d5 => have := Hsz.out; simp; omega
      intro v' w2 hown' hgrow' _
      have hstep := num_done hbig Hpre.out hB hbel hsp hown (v' := v') (by simpa using hown') hgrow'
      clear hown' hgrow' hown
      go_wp2
      go_ret
      exact hstep
end Go.Proofs.YtbfjageaheijbaaGreat
/- The function that lays one field behind what is laid: layer and what it makes. -/
namespace Go.Proofs.YtbfjageaheijbaaGreat
open Go.RowKit

set_option maxRecDepth 100000 in
/-- append of a text's bytes, as one step of a region whose order is drawn. -/
theorem step_append_text {P : Program} {ops : Array Oper} {o : Oper} {a : Act} {w : World} {K : Act → World → Prop} {Q : Exit → Act → World → Prop} {E : Prop} (hgd : o.guard = none) (sl x : Operand) (t u : TypeId)
    (hop : o.op = .call { callee := .builtin .append, args := #[sl, x], argTypes := #[t, u] })
    (base : Nat) (e : TypeId) (i : TypeInfo) (ht : P.underlying t = some (.slice e)) (hu : P.underlying u = some .string) (hi : P.info? e = some i) (hz : i.zero = some (.int .u8 0)) (hsize : i.size = 1) (hby : i.bytes = 1)
    (v : Value) (n : Nat) (xs : List Value) (hs : a.eval sl = v) (hown : w.ownsRow base e 1 v n xs) (s : ByteArray) (hx : a.eval x = .string s)
    (h63 : n + s.size ≤ maxLen) (hbytes : n + s.size ≤ 140737488355328) (hbase : base ≤ w.heap.size)
    (h : ∀ v' w', w'.ownsRow base e 1 v' (n + s.size) (xs ++ Lib.strCells s) → w.grownBy w' v.ownBlock → K (a.put o.dst v') w') :
    if Region.wanted o (yielded ops a.tmps) = true then Oper.wp P o a w K Q else E := by
  rw [if_pos (by simp [Region.wanted, hgd])]
  obtain ⟨v', w', hrun, h1, h2, _⟩ := Lib.run_append_own_string (P := P) w base t u o.type e i ht hu hi hz hsize hby v n xs hown s h63 hbytes hbase
  unfold Oper.wp execOp
  simp only [hop, resolve, invoke, builtin, Sem.run_bind, Sem.run_pure, Result.andThen_ok, List.map_toArray, List.map_cons, List.map_nil, hs, hx, hrun]
  exact h v' w' h1 h2

def numOf (n : Int) (s : ByteArray) (t : Bool) : Int := if t then s.size else n
def strOf (s : ByteArray) (t : Bool) : ByteArray := if t then s else ⟨#[]⟩

set_option maxRecDepth 100000 in
theorem parts_any (n : Int) (s : ByteArray) (t : Bool) (w : World) :
    Calls Tryz.prog 116 #[.agg #[.int .i64 n, .string s, .bool t]] w fun e w' => e = .returned (.tuple #[.int .i64 (numOf n s t), .string (strOf s t)]) ∧ Below w.heap.size w w' := by
  cases t
  · exact parts_n n s w
  · exact parts_t n s w

set_option maxRecDepth 100000 in
theorem own_shape {w : World} {base t size n : Nat} {v : Value} {xs : List Value} (h : w.ownsRow base t size v n xs) : ∃ A cap, v = .slice A n cap := by
  rcases h.2 with ⟨hv, h0⟩ | ⟨g, cap, cur, hv, _⟩
  · exact ⟨none, 0, by rw [hv, h0]⟩
  · exact ⟨_, cap, hv⟩

/-- What is laid so far: block c holds a pointer to block d, block d the slice, which owns the bytes l. -/
def Laid (w : World) (base c d : Nat) (l : List UInt8) : Prop :=
  Row w c 156 #[.pointer (some ⟨d, 0, none⟩)] ∧ ∃ v, Row w d 99 #[v] ∧ w.ownsRow base 5 1 v l.length (Lib.byteCells l)

set_option maxRecDepth 100000 in
theorem Laid.below {w w' : World} {base c d : Nat} {l : List UInt8} (h : Laid w base c d l) (hb : Below w.heap.size w w') : Laid w' base c d l := by
  obtain ⟨h1, v, h2, h3⟩ := h
  refine ⟨h1.below hb h1.inHeap, v, h2.below hb h2.inHeap, h3.kept (gb_below hb none) ?_⟩
  cases hv : v.ownBlock <;> simp

/-- What the laying of one field leaves. -/
def FieldPost (w : World) (base c d : Nat) (l : List UInt8) (n : Int) (s : ByteArray) (e : Ending) (w' : World) : Prop :=
  Below base w w' ∧ (if 65536 - (l.length : Int) < s.size then e = .returned (.bool false) else
    e = .returned (.bool (decide ((l.length : Int) + ((Leb.enc n.toNat).length : Int) + (s.size : Int) ≤ 65536))) ∧ Laid w' base c d (l ++ Leb.enc n.toNat ++ s.data.toList))

set_option maxRecDepth 100000 in
theorem field_fin {w w3 : World} {base c d : Nat} {l e : List UInt8} {x : ByteArray} {u0 v3 : Value} (hb : Below base w w3) (hd : base ≤ d)
    (r1 : Row w3 c 156 #[.pointer (some ⟨d, 0, none⟩)]) (r2 : Row w3 d 99 #[u0]) (own : w3.ownsRow base 5 1 v3 (l.length + e.length + x.size) (Lib.byteCells l ++ Lib.byteCells e ++ Lib.strCells x)) :
    Below base w (w3.setCell ⟨d, 0, none⟩ v3) ∧ Laid (w3.setCell ⟨d, 0, none⟩ v3) base c d (l ++ e ++ x.data.toList) ∧
      (w3.setCell ⟨d, 0, none⟩ v3).cell? ⟨c, 0, none⟩ = some (.pointer (some ⟨d, 0, none⟩)) ∧ (w3.setCell ⟨d, 0, none⟩ v3).cell? ⟨d, 0, none⟩ = some v3 := by
  have hcd : d ≠ c := by
    rintro rfl
    have h1 : w3.heap[d]? = _ := r1
    have h2 : w3.heap[d]? = _ := r2
    rw [h1] at h2
    injection h2 with h2
    injection h2 with _ h2
    exact absurd h2 (by decide)
  have k1 : Row (w3.setCell ⟨d, 0, none⟩ v3) c 156 #[.pointer (some ⟨d, 0, none⟩)] := r1.storedElsewhere (p := ⟨d, 0, none⟩) hcd v3
  have k2 : Row (w3.setCell ⟨d, 0, none⟩ v3) d 99 #[v3] := by simpa using r2.stored 0 v3
  refine ⟨hb.setCell (p := ⟨d, 0, none⟩) hd v3, ⟨k1, v3, k2, ?_⟩, k1.at 0, k2.at 0⟩
  have hlen : (l ++ e ++ x.data.toList).length = l.length + e.length + x.size := by rw [List.length_append, List.length_append, ← Lib.size_eq]
  have hcs : Lib.byteCells (l ++ e ++ x.data.toList) = Lib.byteCells l ++ Lib.byteCells e ++ Lib.strCells x := by rw [Lib.byteCells_append, Lib.byteCells_append, Lib.strCells_eq]
  rw [hlen, hcs]
  exact ownsRow_setCell_other own (a := ⟨d, 0, none⟩) (own_other own r2 (by decide)) v3

set_option maxRecDepth 100000 in
set_option maxHeartbeats 3200000 in
theorem layer_field {w : World} {base c d : Nat} {l : List UInt8} (n : Int) (s : ByteArray) (t : Bool) (h : Laid w base c d l) (hd : base ≤ d) (hB : base ≤ w.heap.size) (hl : l.length ≤ 65536)
    (hn : 0 ≤ numOf n s t) (hn2 : numOf n s t < 9223372036854775808) (hs : (strOf s t).size ≤ 9223372036854775807) :
    Calls Tryz.prog 136 #[.agg #[.int .i64 n, .string s, .bool t], .pointer (some ⟨c, 0, none⟩)] w (FieldPost w base c d l (numOf n s t) (strOf s t)) := by
  obtain ⟨i0, hi, hz0, hz1, hz2⟩ := info_parts byteInfo
  have hparts := fun W => parts_any n s t W
  have Hparts := Lib.hid hparts
  clear hparts
  generalize numOf n s t = q at *
  generalize strOf s t = x at *
  obtain ⟨m, rfl⟩ := Int.eq_ofNat_of_zero_le hn
  have hlaid : ∀ (o : Obj) (W : World), Below (w.alloc o).heap.size (w.alloc o) W → Laid W base c d l ∧ Below base w W := by
    intro o W hW
    have h1 : Below w.heap.size w (w.alloc o) := (Below.refl _ _).alloc (Nat.le_refl _) o
    have h2 : Below w.heap.size w W := h1.trans (hW.mono (by simp))
    exact ⟨h.below h2, h2.mono hB⟩
  have HL := Lib.hid hlaid
  have Hl := Lib.hid hl
  have Hn2 := Lib.hid hn2
  have Hs := Lib.hid hs
  clear hlaid h hn2 hs hn
  by_cases hbig : 65536 - (l.length : Int) < x.size
  · have Hbig := Lib.hid hbig
    have hb : (65536 : Int) - (l.length : Int) < (x.size : Int) := hbig
    have hl0 : (l.length : Int) ≤ 65536 := by omega
    have hs0 : (x.size : Int) ≤ 9223372036854775807 := by have := Hs.out; omega
    clear hbig hl
    go_enter Tryz.func136, Tryz.ntmps136
    go_wp2_with (go_at_call 116; refine (Hparts.out _).mono ?_; rintro e w1 ⟨rfl, hb1⟩; obtain ⟨⟨r1, v, r2, own⟩, hbel⟩ := HL.out _ w1 hb1; obtain ⟨A, cap, rfl⟩ := own_shape own; have c1 : w1.cell? ⟨c, 0, none⟩ = some (.pointer (some ⟨d, 0, none⟩)) := r1.at 0; have c2 : w1.cell? ⟨d, 0, none⟩ = some (.slice A l.length cap) := r2.at 0)
    go_ret
    refine ⟨hbel, ?_⟩
    rw [if_pos Hbig.out]
    rfl
  · have Hbig := Lib.hid hbig
    have hb : decide ((65536 : Int) - (l.length : Int) < (x.size : Int)) = false := by simpa using hbig
    have hl0 : (l.length : Int) ≤ 65536 := by omega
    clear hbig hl
    go_enter Tryz.func136, Tryz.ntmps136
    go_wp2_with (go_at_call 116; refine (Hparts.out _).mono ?_; rintro e w1 ⟨rfl, hb1⟩; obtain ⟨⟨r1, v, r2, own⟩, hbel⟩ := HL.out _ w1 hb1; obtain ⟨A, cap, rfl⟩ := own_shape own; have c1 : w1.cell? ⟨c, 0, none⟩ = some (.pointer (some ⟨d, 0, none⟩)) := r1.at 0; have c2 : w1.cell? ⟨d, 0, none⟩ = some (.slice A l.length cap) := r2.at 0)
    have hen := (Leb.enc_len m).2
    have hx9 : l.length + (Leb.enc m).length + x.size ≤ 200000 := by have := Hbig.out; omega
    have e63 : l.length + (Leb.enc m).length + x.size ≤ maxLen := by unfold maxLen; omega
    have e47 : l.length + (Leb.enc m).length + x.size ≤ 140737488355328 := by omega
    have hm63 : m < 9223372036854775808 := by have := Hn2.out; omega
    have hz1' : base ≤ w1.heap.size := by have := hbel.size; omega
    have E63 := Lib.hid e63
    have E47 := Lib.hid e47
    have M63 := Lib.hid hm63
    clear hx9 e63 e47 hm63 hb hl0 hen
    go_region_law
      (first
        | (refine step_append_text (by rfl) _ _ _ _ (by rfl) base 5 i0 Tryz.underlying99 Tryz.underlying9 hi hz0 hz1 hz2 v2 _ _ (by rfl) own2 x (by rfl) E63.out E47.out (Nat.le_trans hz1' hb2.size) ?_
           intro v3 w3 own3 hg3
           obtain ⟨A3, cap3, rfl⟩ := own_shape own3
           have hsp3 := Spares.grown own2 hg3
           have hb3 : Below base w2 w3 := (Below.refl _ _).grown hg3 (Nat.le_trans hz1' hb2.size) (fun k hk => own_from own2 k hk)
           have c4 : w3.cell? ⟨c, 0, none⟩ = some (.pointer (some ⟨d, 0, none⟩)) := (hsp3 c _ _ (by decide) (hsp2 c _ _ (by decide) r1)).at 0
           have d4 : w3.cell? ⟨d, 0, none⟩ = some (.slice A l.length cap) := (hsp3 d _ _ (by decide) (hsp2 d _ _ (by decide) r2)).at 0
           have e4 := (hsp3 d _ _ (by decide) (hsp2 d _ _ (by decide) r2)).free 0)
        | (go_simp
           go_at_call 137
           refine (append_number (w := w1.drew) (base := base) (n := l.length) (xs := Lib.byteCells l) own Hl.out M63.out hz1').mono ?_
           rintro e w2 ⟨v2, rfl, own2, hb2, hsp2⟩
           have c3 : w2.cell? ⟨c, 0, none⟩ = some (.pointer (some ⟨d, 0, none⟩)) := (hsp2 c _ _ (by decide) r1).at 0
           have d3 : w2.cell? ⟨d, 0, none⟩ = some (.slice A l.length cap) := (hsp2 d _ _ (by decide) r2).at 0))
    all_goals
      obtain ⟨hB9, hL9, c9, d9⟩ := field_fin ((hbel.drew.trans hb2).trans hb3) hd (hsp3 c _ _ (by decide) (hsp2 c _ _ (by decide) r1)) (hsp3 d _ _ (by decide) (hsp2 d _ _ (by decide) r2)) own3
      have HB9 := Lib.hid hB9
      clear hb3 hsp3 c4 d4 e4 own3 hg3 c3 d3 own2 hb2 hsp2 hbel own hB9
      go_wp2
      go_ret
      refine ⟨HB9.out, ?_⟩
      rw [if_neg (by have := Hbig.out; omega)]
      exact ⟨rfl, hL9⟩
end Go.Proofs.YtbfjageaheijbaaGreat
/- Lay: the bytes of any fields, or why they may not be laid. -/
namespace Go.Proofs.YtbfjageaheijbaaGreat
open Go.RowKit

/-- A field: its number, its text, whether it is a text. -/
structure Fl where
  num : Int
  txt : ByteArray
  isT : Bool

/-- The number that a field begins with; the bytes behind it. -/
def Fl.head (f : Fl) : Int := numOf f.num f.txt f.isT
def Fl.body (f : Fl) : ByteArray := strOf f.txt f.isT
def Fl.bytes (f : Fl) : List UInt8 := Leb.enc f.head.toNat ++ f.body.data.toList
def allBytes (fs : List Fl) : List UInt8 := fs.flatMap Fl.bytes

/-- The fields lie in memory, one behind the other. -/
def FieldsAt (w : World) (b off : Nat) (fs : List Fl) : Prop := ∀ i f, fs[i]? = some f →
  w.cell? ⟨b, off + i * 3, none⟩ = some (.int .i64 f.num) ∧ w.cell? ⟨b, off + i * 3 + 1, none⟩ = some (.string f.txt) ∧ w.cell? ⟨b, off + i * 3 + 2, none⟩ = some (.bool f.isT)

set_option maxRecDepth 100000 in
theorem FieldsAt.below {w w' : World} {b off B : Nat} {fs : List Fl} (h : FieldsAt w b off fs) (hb : Below B w w') (hB : b < B) : FieldsAt w' b off fs := fun i f hf => by
  obtain ⟨h1, h2, h3⟩ := h i f hf
  exact ⟨(hb.cell (p := ⟨b, _, none⟩) hB).trans h1, (hb.cell (p := ⟨b, _, none⟩) hB).trans h2, (hb.cell (p := ⟨b, _, none⟩) hB).trans h3⟩

/-- What Lay answers: the bytes, and the error's number. -/
def layOf (fs : List Fl) : List UInt8 × Int :=
  if fs.any (fun f => decide (f.head < 0)) then ([], 3) else if 65536 < (allBytes fs).length then ([], 4) else (allBytes fs, 0)

/-- Numbers and texts as a program can hold them. -/
def Fits (fs : List Fl) : Prop := ∀ (i : Nat) (f : Fl), fs[i]? = some f → f.head < 9223372036854775808 ∧ f.body.size ≤ 9223372036854775807

set_option maxRecDepth 100000 in
theorem parts_fl (f : Fl) (w : World) :
    Calls Tryz.prog 116 #[.agg #[.int .i64 f.num, .string f.txt, .bool f.isT]] w fun e w' => e = .returned (.tuple #[.int .i64 f.head, .string f.body]) ∧ Below w.heap.size w w' :=
  parts_any f.num f.txt f.isT w

set_option maxRecDepth 100000 in
theorem layer_any (d : Nat) (w : World) :
    Calls Tryz.prog 117 #[.pointer (some ⟨d, 0, none⟩)] w fun e w' =>
      e = .returned (.func (.func 136) #[] #[.pointer (some ⟨w.heap.size, 0, none⟩)]) ∧ w.alloc (.cells #[.pointer (some ⟨d, 0, none⟩)] 156) = w' := by
  go_enter Tryz.func117, Tryz.ntmps117
  go_wp2
  go_ret
  exact ⟨rfl, rfl⟩

set_option maxRecDepth 100000 in
/-- What is owned, as a text. -/
theorem run_text {w : World} {base : Nat} {v : Value} {l : List UInt8} (h : w.ownsRow base 5 1 v l.length (Lib.byteCells l)) :
    (convert 99 9 v).run Tryz.prog w = .ok (.string ⟨l.toArray⟩) w := by
  rcases h.2 with ⟨hv, h0⟩ | ⟨g, cap, cur, hv, _⟩
  · have : l = [] := List.eq_nil_of_length_eq_zero h0
    subst this
    rw [hv]
    exact Lib.run_convert_nil_bytes (P := Tryz.prog) w 99 9 5 0 Tryz.underlying99 Tryz.underlying5 Tryz.underlying9
  · have hcells := h.cells (g := g) (by rw [hv]; rfl)
    rw [hv]
    refine run_convert_bytes_back (P := Tryz.prog) w 99 9 5 ⟨g, 0, none⟩ cap l Tryz.underlying99 Tryz.underlying5 Tryz.underlying9 (fun j hj => hcells j _ ?_)
    simp [Lib.byteCells, hj]

set_option maxRecDepth 100000 in
theorem allBytes_snoc (fs : List Fl) (k : Nat) (f : Fl) (hf : fs[k]? = some f) : allBytes (fs.take (k + 1)) = allBytes (fs.take k) ++ Leb.enc f.head.toNat ++ f.body.data.toList := by
  obtain ⟨hl, he⟩ := List.getElem?_eq_some_iff.1 hf
  rw [List.take_succ_eq_append_getElem hl, he]
  simp [allBytes, Fl.bytes, List.append_assoc]

set_option maxRecDepth 100000 in
theorem allBytes_le (fs : List Fl) (k : Nat) : (allBytes (fs.take k)).length ≤ (allBytes fs).length := by
  have : allBytes fs = allBytes (fs.take k) ++ allBytes (fs.drop k) := by
    unfold allBytes
    rw [← List.flatMap_append, List.take_append_drop]
  rw [this, List.length_append]
  omega

def LayPost (w : World) (fs : List Fl) (e : Ending) (w' : World) : Prop :=
  e = .returned (.tuple #[.string ⟨(layOf fs).1.toArray⟩, .int .i64 (layOf fs).2]) ∧ Below w.heap.size w w'

/-- A negative number is told first. -/
def Fine (fs : List Fl) (k : Nat) : Prop := ∀ j f, fs[j]? = some f → j < k → 0 ≤ f.head

set_option maxRecDepth 100000 in
theorem fine_all {fs : List Fl} (h : Fine fs fs.length) : fs.any (fun f => decide (f.head < 0)) = false := by
  rw [List.any_eq_false]
  intro f hf
  obtain ⟨i, hi, he⟩ := List.mem_iff_getElem.1 hf
  have := h i f (by rw [List.getElem?_eq_getElem hi, he]) hi
  simp; omega

/-- At the head of a round of the second loop. -/
def LayRel (w : World) (base c d : Nat) (fs : List Fl) (k : Nat) (wr : World) : Prop :=
  Below base w wr ∧ Laid wr base c d (allBytes (fs.take k)) ∧ (allBytes (fs.take k)).length ≤ 65536

set_option maxRecDepth 100000 in
theorem LayRel.new {w wr : World} {base c d k : Nat} {fs : List Fl} (h : LayRel w base c d fs k wr) (hB : base ≤ w.heap.size) (o : Obj) : LayRel w base c d fs k (wr.alloc o) :=
  ⟨h.1.alloc (Nat.le_trans hB h.1.size) o, h.2.1.below ((Below.refl _ _).alloc (Nat.le_refl _) o), h.2.2⟩

set_option maxRecDepth 100000 in
theorem layer_yes {w W : World} {base c d k : Nat} {fs : List Fl} {f : Fl} (h : LayRel w base c d fs k W) (hd : base ≤ d) (hB : base ≤ w.heap.size) (hf : fs[k]? = some f) (hfit : Fits fs) (hpos : 0 ≤ f.head)
    (hle : (allBytes (fs.take (k + 1))).length ≤ 65536) :
    Calls Tryz.prog 136 #[.agg #[.int .i64 f.num, .string f.txt, .bool f.isT], .pointer (some ⟨c, 0, none⟩)] W fun e w' => e = .returned (.bool true) ∧ LayRel w base c d fs (k + 1) w' := by
  obtain ⟨h1, h2, h3⟩ := h
  have hs := allBytes_snoc fs k f hf
  have hlen : (allBytes (fs.take (k + 1))).length = (allBytes (fs.take k)).length + (Leb.enc f.head.toNat).length + f.body.size := by
    rw [hs, List.length_append, List.length_append, ← Lib.size_eq]
  refine (layer_field f.num f.txt f.isT h2 hd (Nat.le_trans hB h1.size) h3 hpos (hfit k f hf).1 (hfit k f hf).2).mono ?_
  rintro e w' ⟨k1, k2⟩
  have k2' : if 65536 - ((allBytes (fs.take k)).length : Int) < f.body.size then e = .returned (.bool false) else
    e = .returned (.bool (decide (((allBytes (fs.take k)).length : Int) + ((Leb.enc f.head.toNat).length : Int) + (f.body.size : Int) ≤ 65536))) ∧ Laid w' base c d (allBytes (fs.take k) ++ Leb.enc f.head.toNat ++ f.body.data.toList) := k2
  rw [if_neg (by omega)] at k2'
  obtain ⟨k3, k4⟩ := k2'
  refine ⟨?_, h1.trans k1, by rw [hs]; exact k4, hle⟩
  rw [k3, decide_eq_true (by omega)]

set_option maxRecDepth 100000 in
theorem layer_no {w W : World} {base c d k : Nat} {fs : List Fl} {f : Fl} (h : LayRel w base c d fs k W) (hd : base ≤ d) (hB : base ≤ w.heap.size) (hf : fs[k]? = some f) (hfit : Fits fs) (hpos : 0 ≤ f.head)
    (hle : 65536 < (allBytes (fs.take (k + 1))).length) :
    Calls Tryz.prog 136 #[.agg #[.int .i64 f.num, .string f.txt, .bool f.isT], .pointer (some ⟨c, 0, none⟩)] W fun e w' => e = .returned (.bool false) ∧ Below base w w' := by
  obtain ⟨h1, h2, h3⟩ := h
  have hs := allBytes_snoc fs k f hf
  have hlen : (allBytes (fs.take (k + 1))).length = (allBytes (fs.take k)).length + (Leb.enc f.head.toNat).length + f.body.size := by
    rw [hs, List.length_append, List.length_append, ← Lib.size_eq]
  refine (layer_field f.num f.txt f.isT h2 hd (Nat.le_trans hB h1.size) h3 hpos (hfit k f hf).1 (hfit k f hf).2).mono ?_
  rintro e w' ⟨k1, k2⟩
  have k2' : if 65536 - ((allBytes (fs.take k)).length : Int) < f.body.size then e = .returned (.bool false) else
    e = .returned (.bool (decide (((allBytes (fs.take k)).length : Int) + ((Leb.enc f.head.toNat).length : Int) + (f.body.size : Int) ≤ 65536))) ∧ Laid w' base c d (allBytes (fs.take k) ++ Leb.enc f.head.toNat ++ f.body.data.toList) := k2
  refine ⟨?_, h1.trans k1⟩
  split at k2'
  · exact k2'
  · rw [k2'.1, decide_eq_false (by omega)]

set_option maxRecDepth 100000 in
set_option maxHeartbeats 3200000 in
theorem lay_any {w : World} {b off cap : Nat} {fs : List Fl} (h : FieldsAt w b off fs) (hb : b < w.heap.size) (hlen : fs.length ≤ 10000) (hfit : Fits fs) :
    Calls Tryz.prog 97 #[.slice (some ⟨b, off, none⟩) fs.length cap] w (LayPost w fs) := by
  have Hf := Lib.hid h
  have Hfit := Lib.hid hfit
  have hlen' : (fs.length : Int) ≤ 10000 := by omega
  clear h hlen hfit
  go_enter Tryz.func97, Tryz.ntmps97
  go_wp2
  go_loopw [14] (fun i wr => ∃ k : Nat, k ≤ fs.length ∧ i = .int .i64 k ∧ Below w.heap.size w wr ∧ Fine fs k) (fun i _ => fs.length - (intOf i).toNat)
  case atStart => exact ⟨0, Nat.zero_le _, rfl, Below.refl _ _, fun j f _ hj => absurd hj (by omega)⟩
  case round =>
    obtain ⟨k, hk, rfl, hbel, hfine⟩ := hrel
    by_cases hlt : k < fs.length
    · obtain ⟨f, hf⟩ : ∃ f, fs[k]? = some f := ⟨fs[k], List.getElem?_eq_getElem hlt⟩
      obtain ⟨c0, c1, c2⟩ := (Hf.out.below hbel hb) k f hf
      have HF := Lib.hid hf
      clear hf
      have hbn : Below w.heap.size w (wr.alloc (.cells #[.int .i64 f.num, .string f.txt, .bool f.isT] 144)) := hbel.alloc hbel.size _
      have Hbn := Lib.hid hbn
      clear hbn
      by_cases hneg : f.head < 0
      · have hfin : Hid (layOf fs = ([], 3)) := by
          unfold layOf
          rw [if_pos]
          · rfl
          · exact List.any_eq_true.2 ⟨f, List.mem_of_getElem? HF.out, by simpa using hneg⟩
        go_wp2_with (go_at_call 116; refine (parts_fl f _).mono ?_; rintro e w1 ⟨rfl, hb1⟩)
        go_ret2
        exact ⟨by rw [hfin.out]; rfl, Hbn.out.trans (hb1.mono Hbn.out.size)⟩
      · have hpos : 0 ≤ f.head := by omega
        have hfine' : Fine fs (k + 1) := by
          intro j g hg hj
          by_cases hjk : j = k
          · subst hjk
            rw [HF.out] at hg
            injection hg with hg
            rw [← hg]; exact hpos
          · exact hfine j g hg (by omega)
        clear hneg hfine
        go_wp2_with (go_at_call 116; refine (parts_fl f _).mono ?_; rintro e w1 ⟨rfl, hb1⟩)
        go_roundw
        case rel => exact ⟨k + 1, by omega, by go_num, Hbn.out.trans (hb1.mono Hbn.out.size), hfine'⟩
        case measure => simp [intOf]; omega
    · obtain rfl : k = fs.length := by omega
      obtain ⟨wo, rfl⟩ : ∃ wo : World, wo = wr := ⟨_, rfl⟩
      have hfine2 := fine_all hfine
      have Hfine2 := Lib.hid hfine2
      have Hfine := Lib.hid hfine
      clear hfine hfine2
      have hsz := hbel.size
      -- what the second loop begins with
      have hstart : LayRel w w.heap.size (wo.heap.size + 1) wo.heap.size fs 0 ((wo.alloc (.cells #[.slice none 0 0] 99)).alloc (.cells #[.pointer (some ⟨wo.heap.size, 0, none⟩)] 156)) := by
        refine ⟨(hbel.alloc hbel.size _).alloc (by simp; omega) _, ⟨?_, .slice none 0 0, (Row.made wo _ _).behindNew _, ?_⟩, by simp [allBytes]⟩
        · have := Row.made (wo.alloc (.cells #[.slice none 0 0] 99)) 156 #[.pointer (some ⟨wo.heap.size, 0, none⟩)]
          simpa using this
        · simpa [allBytes, Lib.byteCells] using World.ownsRow_nil _ _ _ _
      have Hstart := Lib.hid hstart
      clear hstart
      go_wp2_with (go_at_call 117; refine (layer_any _ _).mono ?_; rintro e w1 ⟨rfl, rfl⟩)
      go_loopw [29] (fun i wx => ∃ j : Nat, j ≤ fs.length ∧ i = .int .i64 j ∧ LayRel w w.heap.size (wo.heap.size + 1) wo.heap.size fs j wx) (fun i _ => fs.length - (intOf i).toNat)
      case atStart => exact ⟨0, Nat.zero_le _, rfl, Hstart.out⟩
      case round =>
        obtain ⟨j, hj, rfl, hrel2⟩ := hrel
        by_cases hlt2 : j < fs.length
        · obtain ⟨f, hf⟩ : ∃ f, fs[j]? = some f := ⟨fs[j], List.getElem?_eq_getElem hlt2⟩
          have hpos : 0 ≤ f.head := Hfine.out j f hf hlt2
          obtain ⟨c0, c1, c2⟩ := (Hf.out.below hrel2.1 hb) j f hf
          have HF := Lib.hid hf
          clear hf
          have Hrel := Lib.hid (hrel2.new (Nat.le_refl _) (.cells #[.int .i64 f.num, .string f.txt, .bool f.isT] 144))
          by_cases hle : (allBytes (fs.take (j + 1))).length ≤ 65536
          · have Hle := Lib.hid hle
            clear hle hrel2
            go_wp2_with (go_at_call 136; refine (layer_yes Hrel.out hsz (Nat.le_refl _) HF.out Hfit.out hpos Hle.out).mono ?_; rintro e w1 ⟨rfl, hr1⟩)
            go_roundw
            case rel => exact ⟨j + 1, by omega, by go_num, hr1⟩
            case measure => simp [intOf]; omega
          · have Hle := Lib.hid (show 65536 < (allBytes (fs.take (j + 1))).length by omega)
            clear hle hrel2
            have hfin : Hid (layOf fs = ([], 4)) := by
              have := allBytes_le fs (j + 1)
              have := Hle.out
              unfold layOf
              rw [if_neg (by rw [Hfine2.out]; simp), if_pos (by omega)]
              rfl
            go_wp2_with (go_at_call 136; refine (layer_no Hrel.out hsz (Nat.le_refl _) HF.out Hfit.out hpos Hle.out).mono ?_; rintro e w1 ⟨rfl, hr1⟩)
            go_ret2
            exact ⟨by rw [hfin.out]; rfl, hr1⟩
        · obtain rfl : j = fs.length := by omega
          obtain ⟨hb2, ⟨_, v, r2, own⟩, hle⟩ := hrel2
          have htext := run_text own
          have cd : wr.cell? ⟨wo.heap.size, 0, none⟩ = some v := r2.at 0
          have hfin : Hid (layOf fs = (allBytes fs, 0)) := by
            rw [List.take_length] at hle
            unfold layOf
            rw [if_neg (by rw [Hfine2.out]; simp), if_neg (by omega)]
            rfl
          clear own r2 hle
          go_wp2
          go_ret2
          exact ⟨by rw [hfin.out]; rfl, hb2⟩

set_option maxRecDepth 100000 in
/-- Of no field nothing is laid, whatever the slice's address. -/
theorem lay_empty (A : Option Addr) (cap : Nat) (w : World) :
    Calls Tryz.prog 97 #[.slice A 0 cap] w (LayPost w []) := by
  have hnil := Lib.run_convert_nil_bytes (P := Tryz.prog) ((w.alloc (.cells #[.slice none 0 0] 99)).alloc (.cells #[.pointer (some ⟨w.heap.size, 0, none⟩)] 156)) 99 9 5 0 Tryz.underlying99 Tryz.underlying5 Tryz.underlying9
  go_enter Tryz.func97, Tryz.ntmps97
  go_wp2
  refine wp_loop_rounds 1 ?_
  rw [rounds_succ]
  go_wp2_with (go_at_call 117; refine (layer_any _ _).mono ?_; rintro e w1 ⟨rfl, rfl⟩)
  refine wp_loop_rounds 1 ?_
  rw [rounds_succ]
  go_wp2
  go_ret2
  exact ⟨rfl, ((Below.refl _ _).alloc (Nat.le_refl _) _).alloc (by simp) _⟩
end Go.Proofs.YtbfjageaheijbaaGreat
