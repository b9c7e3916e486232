/- The small functions of laying: N, T, parts, appendNumber. -/
import Derived.Test.YtlccbebociknaaaText
import Derived.Laws.ResultCell
import Derived.OwnWalk
import Derived.Outline
namespace Go.Proofs.Ytlccbebociknaaa
open Go.RowKit

theorem field_n (n : Int) (w : World) :
    Calls Try.prog 33 #[.int .i64 n] w fun e w' => e = .returned (.agg #[.int .i64 n, .string ⟨#[]⟩, .bool false]) ∧ Below w.heap.size w w' := by
  go_enter Try.func33, Try.ntmps33
  go_wp2
  refine bodyPost_ret (v := .agg #[.int .i64 n, .string ⟨#[]⟩, .bool false]) (by simp [results, Try.results33, go_sem]) rfl ⟨rfl, (Below.refl _ _).alloc (Nat.le_refl _) _⟩

theorem field_t (s : ByteArray) (w : World) :
    Calls Try.prog 30 #[.string s] w fun e w' => e = .returned (.agg #[.int .i64 0, .string s, .bool true]) ∧ Below w.heap.size w w' := by
  go_enter Try.func30, Try.ntmps30
  go_wp2
  refine bodyPost_ret (v := .agg #[.int .i64 0, .string s, .bool true]) (by simp [results, Try.results30, go_sem]) rfl ⟨rfl, (Below.refl _ _).alloc (Nat.le_refl _) _⟩

theorem parts_n (n : Int) (s : ByteArray) (w : World) :
    Calls Try.prog 39 #[.agg #[.int .i64 n, .string s, .bool false]] w fun e w' => e = .returned (.tuple #[.int .i64 n, .string ⟨#[]⟩]) ∧ Below w.heap.size w w' := by
  go_enter Try.func39, Try.ntmps39
  go_wp2
  go_ret2
  exact ⟨rfl, by repeat (first | exact Below.refl _ _ | apply Below.drew | refine Below.alloc ?_ (Nat.le_refl _) _)⟩

theorem parts_t (n : Int) (s : ByteArray) (w : World) :
    Calls Try.prog 39 #[.agg #[.int .i64 n, .string s, .bool true]] w fun e w' => e = .returned (.tuple #[.int .i64 s.size, .string s]) ∧ Below w.heap.size w w' := by
  go_enter Try.func39, Try.ntmps39
  go_wp2
  go_quiet (fail)
  go_wp2
  go_ret2
  exact ⟨rfl, ⟨rfl, rfl, rfl, by simp, fun k hk => Below.heap_alloc _ _ _ hk⟩⟩

/-- Rows of other element types than t stay. -/
def Spares (t : TypeId) (w w' : World) : Prop := ∀ (b : Nat) (u : TypeId) (cs : Array Value), u ≠ t → Row w b u cs → Row w' b u cs

theorem Spares.same (t : TypeId) (w : World) : Spares t w w := fun _ _ _ _ h => h
theorem Spares.then_ {t : TypeId} {a b c : World} (h : Spares t a b) (k : Spares t b c) : Spares t a c := fun i u cs hu hr => k i u cs hu (h i u cs hu hr)
theorem Spares.draws {t : TypeId} {a w : World} (h : Spares t a w) (n : Nat) : Spares t a (w.drewN n) := h
theorem Spares.new {t : TypeId} {a w : World} (h : Spares t a w) (o : Obj) : Spares t a (w.alloc o) := fun i u cs hu hr => (h i u cs hu hr).behindNew o
theorem Spares.below {t : TypeId} {w w' : World} (h : Below w.heap.size w w') : Spares t w w' := fun _ _ _ _ hr => hr.below h hr.inHeap

/-- An owned row of type t is no row of another type. -/
theorem own_other {w : World} {base : Nat} {t : TypeId} {size n : Nat} {v : Value} {xs : List Value} (h : w.ownsRow base t size v n xs) {b : Nat} {u : TypeId} {cs : Array Value} (hr : Row w b u cs) (hu : u ≠ t) : v.ownBlock ≠ some b := by
  rcases h.2 with ⟨hv, _⟩ | ⟨g, cap, cur, hv, _, hh, _⟩
  · rw [hv]; simp [Value.ownBlock]
  · rw [hv]
    intro he
    have e : g = b := by simpa [Value.ownBlock] using he
    rw [e] at hh
    have h2 : w.heap[b]? = some (Obj.cells cs u (0, 0)) := hr
    rw [h2] at hh
    injection hh with hh
    injection hh with _ ht
    exact hu ht

theorem Spares.grown {t : TypeId} {w w' : World} {base size n : Nat} {v : Value} {xs : List Value} (h : w.ownsRow base t size v n xs) (hg : w.grownBy w' v.ownBlock) : Spares t w w' :=
  fun _ _ _ hu hr => hr.grown hg (own_other h hr hu)

theorem own_from {w : World} {base t size n : Nat} {v : Value} {xs : List Value} (h : w.ownsRow base t size v n xs) : ∀ k, v.ownBlock = some k → base ≤ k := by
  intro k hk
  rcases h.2 with ⟨hv, _⟩ | ⟨g, cap, cur, hv, hb, _⟩
  · rw [hv] at hk; simp [Value.ownBlock] at hk
  · rw [hv] at hk
    have : g = k := by simpa [Value.ownBlock] using hk
    omega

/-- What laying leaves: a value that owns so many bytes more; nothing older than base has turned, nor a row of another type. -/
def LaidPost (w : World) (base : Nat) (n : Nat) (xs : List Value) (news : List UInt8) (e : Ending) (w' : World) : Prop :=
  ∃ v, e = .returned v ∧ w'.ownsRow base 5 1 v (n + news.length) (xs ++ Lib.byteCells news) ∧ Below base w w' ∧ Spares 5 w w'

def NumLoop (w : World) (base n : Nat) (xs : List Value) (l : List UInt8) (v : Value) (m : Nat) (wr : World) : Prop :=
  ∃ (f : Nat) (pre : List UInt8), m < 128 ^ (f + 1) ∧ f ≤ 8 ∧ pre ++ Leb.encF f m = l ∧ wr.ownsRow base 5 1 v (n + pre.length) (xs ++ Lib.byteCells pre) ∧ Below base w wr ∧ Spares 5 w wr

theorem num_more {w wr w2 : World} {base n m' : Nat} {xs : List Value} {l pre : List UInt8} {f : Nat} {v v' : Value} (hbig : 127 < m') (hf : m' < 128 ^ (f + 1)) (hf8 : f ≤ 8) (hpre : pre ++ Leb.encF f m' = l)
    (hB : base ≤ w.heap.size) (hbel : Below base w wr) (hsp : Spares 5 w wr) (hown : wr.ownsRow base 5 1 v (n + pre.length) (xs ++ Lib.byteCells pre)) {o : Obj}
    (hown' : w2.ownsRow base 5 1 v' (n + pre.length + 1) (xs ++ (Lib.byteCells pre ++ [Value.int .u8 ((m' % 128 + 128 : Nat) : Int)]))) (hg : (wr.alloc o).grownBy w2 v.ownBlock) :
    NumLoop w base n xs l v' (m' / 128) w2 := by
  cases f with
  | zero => simp at hf; omega
  | succ f =>
    have hs := hbel.size
    refine ⟨f, pre ++ [UInt8.ofNat (m' % 128 + 128)], ?_, by omega, ?_, ?_, ?_, ?_⟩
    · rw [Nat.div_lt_iff_lt_mul (by omega), ← Nat.pow_succ]; exact hf
    · rw [← hpre, Leb.encF, if_neg (by omega)]; simp
    · have e : Lib.byteCells (pre ++ [UInt8.ofNat (m' % 128 + 128)]) = Lib.byteCells pre ++ [Value.int .u8 ((m' % 128 + 128 : Nat) : Int)] := by
        rw [Lib.byteCells_append]
        simp only [Lib.byteCells, List.map_cons, List.map_nil, Leb.toNat_ofNat (m' % 128 + 128) (by omega)]
      rw [e, List.length_append]
      exact hown'
    · exact (hbel.alloc (by omega) o).grown hg (by simp; omega) (fun k hk => own_from hown k hk)
    · exact (hsp.new o).then_ (Spares.grown (hown.alloc o) hg)

theorem num_done {w wr w2 : World} {base n m' : Nat} {xs : List Value} {l pre : List UInt8} {f : Nat} {v v' : Value} (hbig : ¬ 127 < m') (hpre : pre ++ Leb.encF f m' = l)
    (hB : base ≤ w.heap.size) (hbel : Below base w wr) (hsp : Spares 5 w wr) (hown : wr.ownsRow base 5 1 v (n + pre.length) (xs ++ Lib.byteCells pre)) {o : Obj}
    (hown' : w2.ownsRow base 5 1 v' (n + pre.length + 1) (xs ++ (Lib.byteCells pre ++ [Value.int .u8 (m' : Int)]))) (hg : (wr.alloc o).grownBy w2 v.ownBlock) :
    LaidPost w base n xs l (.returned v') w2 := by
  have hs := hbel.size
  have he : Leb.encF f m' = [UInt8.ofNat m'] := by
    cases f with
    | zero => rfl
    | succ f => rw [Leb.encF, if_pos (by omega)]
  rw [he] at hpre
  refine ⟨v', rfl, ?_, (hbel.alloc (by omega) o).grown hg (by simp; omega) (fun k hk => own_from hown k hk), (hsp.new o).then_ (Spares.grown (hown.alloc o) hg)⟩
  have e : Lib.byteCells l = Lib.byteCells pre ++ [Value.int .u8 (m' : Int)] := by
    rw [← hpre, Lib.byteCells_append]
    simp only [Lib.byteCells, List.map_cons, List.map_nil, Leb.toNat_ofNat m' (by omega)]
  rw [e, ← hpre, List.length_append]
  exact hown'

theorem byteInfo : (Try.prog.info? 5).map (fun i => (i.zero, i.size, i.bytes)) = some (some (.int .u8 0), 1, 1) := by kernel_rfl

set_option maxHeartbeats 800000 in
theorem append_number {w : World} {base n m : Nat} {v : Value} {xs : List Value} (hown : w.ownsRow base 5 1 v n xs) (hn : n ≤ 65536) (hm : m < 9223372036854775808) (hB : base ≤ w.heap.size) :
    Calls Try.prog 48 #[v, .int .i64 m] w (LaidPost w base n xs (Leb.enc m)) := by
  obtain ⟨i0, hi, hz0, hz1, hz2⟩ := info_parts byteInfo
  have h0 : NumLoop w base n xs (Leb.enc m) v m w := ⟨8, [], by simpa using hm, by omega, rfl, by simpa [Lib.byteCells] using hown, Below.refl _ _, Spares.same _ _⟩
  clear hown
  go_enter Try.func48, Try.ntmps48
  go_wp2_with fail
  go_loopw [0, 1] (fun b x wr => ∃ m' : Nat, x = .int .i64 m' ∧ m' ≤ m ∧ NumLoop w base n xs (Leb.enc m) b m' wr) (fun _ x _ => (intOf x).toNat)
  case atStart => exact ⟨m, rfl, Nat.le_refl _, h0⟩
  case round =>
    obtain ⟨m', rfl, hm', f, pre, hf, hf8, hpre, hown, hbel, hsp⟩ := hrel
    have Hf := Lib.hid hf
    have Hpre := Lib.hid hpre
    have hpl : pre.length ≤ 9 := by
      have := (Leb.enc_len m).2
      rw [← hpre, List.length_append] at this
      omega
    have Hsz := Lib.hid hbel.size
    clear hf hpre
    by_cases hbig : 127 < m'
    · obtain ⟨d, hd⟩ : ∃ d : Nat, d = m' % 128 := ⟨_, rfl⟩
      obtain ⟨g, hg⟩ : ∃ g : Nat, g = d + 128 := ⟨_, rfl⟩
      have hd1 : d < 128 := by omega
      have ha : bits .and .i64 (m' : Int) 127 = (d : Int) := by rw [i64_and127, hd]; rfl
      have ho : bits .or .u8 (d : Int) 128 = (g : Int) := by rw [u8_or128_right _ (by omega) (by omega), hg]; rfl
      have Hd := Lib.hid hd
      have Hg := Lib.hid hg
      clear hd hg
      go_wp2_with (at_builtin; refine wpList_append_own _ rfl _ _ 38 rfl base 5 i0 (.int .u8 0) 1 1 Try.underlying38 hi hz0 hz1 hz2 rfl (by decide) _ _ _ rfl (hown.alloc _) ⟨wr.heap.size, 0, none⟩ 1 1 [.int .u8 (g : Int)] rfl rfl ?c1 ?c2 ?c3 ?c4 ?c5 ?_)
      case c1 =>
        intro j u hj
        match j, hj with
        | 0, hj => simp at hj; subst hj; simp [Addr.add]
      case c2 => intro u hu; simp at hu; subst hu; rfl
      case c3 => unfold maxLen; omega
      case c4 => omega
      case c5 => have := Hsz.out; simp; omega
      intro v' w2 hown' hgrow' _
      have hstep := num_more hbig Hf.out hf8 Hpre.out hB hbel hsp hown (v' := v') (by rw [← Hd.out, ← Hg.out]; simpa using hown') hgrow'
      clear hown' hgrow' hown
      go_wp2
      go_roundw
      case rel => exact ⟨m' / 128, by simp, by omega, hstep⟩
      case measure => simp [intOf]; omega
    · go_wp2_with (at_builtin; refine wpList_append_own _ rfl _ _ 38 rfl base 5 i0 (.int .u8 0) 1 1 Try.underlying38 hi hz0 hz1 hz2 rfl (by decide) _ _ _ rfl (hown.alloc _) ⟨wr.heap.size, 0, none⟩ 1 1 [.int .u8 (m' : Int)] rfl rfl ?d1 ?d2 ?d3 ?d4 ?d5 ?_)
      case d1 =>
        intro j u hj
        match j, hj with
        | 0, hj => simp at hj; subst hj; simp [Addr.add]
      case d2 => intro u hu; simp at hu; subst hu; rfl
      case d3 => unfold maxLen; omega
      case d4 => omega
      case d5 => have := Hsz.out; simp; omega
      intro v' w2 hown' hgrow' _
      have hstep := num_done hbig Hpre.out hB hbel hsp hown (v' := v') (by simpa using hown') hgrow'
      clear hown' hgrow' hown
      go_wp2
      go_ret
      exact hstep
end Go.Proofs.Ytlccbebociknaaa
