import Derived.Test.YtpafpegcodempaaGreatCom4
import Derived.Test.YtpafpegcodempaaGreatCom6
import Derived.Test.YtpafpegcodempaaGreatCom13
import Derived.Test.YtpafpegcodempaaGreatCom19
import Derived.Test.YtpafpegcodempaaGreatCom17
import Derived.Test.YtpafpegcodempaaGreatCom16
import Derived.Test.YtpafpegcodempaaGreatCom15
import Derived.Test.YtpafpegcodempaaGreatCom9
import Derived.Deep.Fields
set_option maxRecDepth 100000
set_option linter.all false
set_option maxHeartbeats 12800000
namespace Go.Proofs.YtpafpegcodempaaGreat
open Go.ChangeShapes Go.WideShapes Go.ChangeAt Go.RowKit Go.Deep
theorem Ver.intCells : Tryz.prog.cellsOf 3 = 1 := by kernel_rfl
theorem Ver.verCells : Tryz.prog.cellsOf 51 = 2 := by kernel_rfl
theorem Ver.in_heap {W : World} {a : Addr} {v : Value} (h : W.cell? a = some v) : a.block < W.heap.size ∧ a.spot = none :=
 ⟨World.block_lt_of_cell? W a h, World.cell?_spot h⟩
theorem Ver.list_of {α : Type} {p : Nat → α → Prop} : ∀ n, (∀ i, i < n → ∃ x, p i x) → ∃ l : List α, l.length = n ∧ ∀ i x, l[i]? = some x → p i x
 | 0, _ => ⟨[], rfl, fun i x h => by simp at h⟩
 | n + 1, h => by
  obtain ⟨l, hl, hp⟩ := Ver.list_of n (fun i hi => h i (by omega))
  obtain ⟨x, hx⟩ := h n (by omega)
  refine ⟨l ++ [x], by simp [hl], fun i y hy => ?_⟩
  by_cases hi : i < n
  ·rw [List.getElem?_append_left (by omega)] at hy
   exact hp i y hy
  ·have hin : i < (l ++ [x]).length := (List.getElem?_eq_some_iff.1 hy).1
   have : i = n := by simp [hl] at hin; omega
   subst this
   rw [List.getElem?_append_right (by omega), hl, Nat.sub_self] at hy
   simp at hy
   rw [← hy]; exact hx
theorem Ver.rows_of {α : Type} {k : Nat} {f : α → List Value} {W : World} {a : Addr} {len cap : Nat} {l : List α} (hk : 0 < k) (hf : ∀ x, (f x).length = k) (hll : l.length = len) (hl : len ≤ cap)
  (h : ∀ i x, l[i]? = some x → ∀ j u, (f x)[j]? = some u → W.cell? (a.add (i * k + j)) = some u) : Rws k f W (fun i => i < W.heap.size) (.slice (some a) len cap) l := by
 refine ⟨some a, cap, by rw [hll], by rw [hll]; exact hl, fun hpos => ?_⟩
 obtain ⟨x0, hx0⟩ : ∃ x, l[0]? = some x := ⟨_, List.getElem?_eq_getElem hpos⟩
 obtain ⟨u0, hu0⟩ : ∃ u, (f x0)[0]? = some u := ⟨_, List.getElem?_eq_getElem (by rw [hf]; exact hk)⟩
 have hb := Ver.in_heap (h 0 x0 hx0 0 u0 hu0)
 obtain ⟨b, off, spot⟩ := a
 have hs : spot = none := by simpa [Addr.add] using hb.2
 subst hs
 have hb1 : b < W.heap.size := by simpa [Addr.add] using hb.1
 refine ⟨b, off, rfl, hb1, hb1, fun i x hx j u hu => ?_⟩
 have := h i x hx j u hu
 rwa [Go.WideShapes.add_plain, ← Nat.add_assoc] at this
section
variable {H : Type} {enc : TypeId × Value → H}
theorem open_ver2 {W : World} {n : Nat} {cs : List Value} {x : DataW H × List MemPlace} (hl : cs.length = 2) (h : DataW.trod enc Tryz.prog W 0 (fun _ => true) true n 51 cs = some x) : ∃ v : Ver.V, cs = verV v ∧ Ver.Bd v := by
 obtain ⟨xs, n'', _, _, _, hxs, hfs⟩ := DataW.trod_struct Tryz.underlying51 h
 match cs, hl with
 | [c0, c1], _ =>
  have hl2 : xs.length = 2 := hxs
  have k0 : DataW.trod enc Tryz.prog W 0 (fun _ => true) true n'' 3 (([c0, c1].drop 0).take (Tryz.prog.cellsOf 3)) = xs[0]? := hfs 0 _ rfl
  have k1 : DataW.trod enc Tryz.prog W 0 (fun _ => true) true n'' 3 (([c0, c1].drop 1).take (Tryz.prog.cellsOf 3)) = xs[1]? := hfs 1 _ rfl
  rw [Ver.intCells, List.getElem?_eq_getElem (by omega)] at k0 k1
  obtain ⟨x0, e0, _, w0⟩ := DataW.trod_int Tryz.underlying3 k0
  obtain ⟨x1, e1, _, w1⟩ := DataW.trod_int Tryz.underlying3 k1
  have e0 : c0 = .int .i64 x0 := by simpa using e0
  have e1 : c1 = .int .i64 x1 := by simpa using e1
  have b0 := bounds_i64 w0
  have b1 := bounds_i64 w1
  exact ⟨⟨x0, x1⟩, by rw [e0, e1]; rfl, by unfold Ver.Bd Ver.I64; simp only; omega⟩
theorem open_vers {W : World} {v : Value} {d : DataW H} {p : List MemPlace} (hv : ∃ a len cap, v = .slice a len cap) (h : DataW.Trod enc Tryz.prog W 0 (fun _ => true) true 33 v d p) :
  ∃ l : List Ver.V, Vrs W (fun i => i < W.heap.size) v l ∧ l.length ≤ 9223372036854775807 ∧ ∀ x ∈ l, Ver.Bd x := by
 obtain ⟨A, len, cap, rfl⟩ := hv
 obtain ⟨fuel, hf⟩ := h
 rcases open_slice Tryz.underlying33 hf with ⟨hcs, _⟩ | ⟨a, len', cap', m, n', D, Pl, hcs, _, hl, hm, hmm, _, hi⟩
 ·simp [Value.cells] at hcs
  obtain ⟨rfl, rfl, rfl⟩ := hcs
  exact ⟨[], Rws.none _ _ _, by simp, fun r hr => by cases hr⟩
 ·simp [Value.cells] at hcs
  obtain ⟨rfl, rfl, rfl⟩ := hcs
  simp at hmm
  unfold maxLen at hm
  obtain ⟨l, hll, hlp⟩ := Ver.list_of (p := fun i x => (∀ j u, (verV x)[j]? = some u → W.cell? (a.add (i * 2 + j)) = some u) ∧ Ver.Bd x) len (fun i hil => by
   obtain ⟨cs', hc, ht⟩ := hi i (by omega)
   rw [Ver.verCells] at hc
   obtain ⟨_, hcl, hat⟩ := World.cells?_some hc
   obtain ⟨x, e, hx⟩ := open_ver2 hcl ht
   refine ⟨x, fun j u hu => ?_, hx⟩
   have hj : j < 2 := by have := (List.getElem?_eq_some_iff.1 hu).1; rwa [ver_len] at this
   have := hat j hj
   rw [Go.Deep.add_add] at this
   rw [this]
   subst e
   rw [← hu])
  refine ⟨l, Ver.rows_of (by decide) ver_len hll hl (fun i x hx => (hlp i x hx).1), by omega, fun x hx => ?_⟩
  obtain ⟨i, hil, rfl⟩ := List.getElem_of_mem hx
  exact (hlp i _ (List.getElem?_eq_getElem hil)).2
end
open Go.ChangeShapes Go.WideShapes Go.ChangeAt Go.RowKit Go.Deep
theorem Vec.vecCells : Tryz.prog.cellsOf 32 = 65 := by kernel_rfl
section
variable {H : Type} {enc : TypeId × Value → H}
theorem open_vec65 {W : World} {n : Nat} {cs : List Value} {x : DataW H × List MemPlace} (hl : cs.length = 65) (h : DataW.trod enc Tryz.prog W 0 (fun _ => true) true n 32 cs = some x) : ∃ v : List Int, cs = vecL v ∧ v.length = 65 ∧ ∀ n ∈ v, Ver.I64 n := by
 obtain ⟨xs, m, _, _, _, hxl, hel⟩ := DataW.trod_array Tryz.underlying32 h
 have hi : ∀ i, i < 65 → ∃ n : Int, cs[i]? = some (.int .i64 n) ∧ Ver.I64 n := by
  intro i hi
  have k := hel i hi
  rw [Ver.intCells, Nat.mul_one, List.getElem?_eq_getElem (by omega)] at k
  have e : (cs.drop i).take 1 = [cs[i]'(by omega)] := by
   rw [List.take_one, List.head?_drop, List.getElem?_eq_getElem (by omega)]; rfl
  rw [e] at k
  obtain ⟨x0, e0, _, w0⟩ := DataW.trod_int Tryz.underlying3 k
  have b0 := bounds_i64 w0
  refine ⟨x0, ?_, by unfold Ver.I64; omega⟩
  rw [List.getElem?_eq_getElem (by omega)]
  congr 1
  simpa using e0
 obtain ⟨l, hll, hlp⟩ := Ver.list_of (p := fun i (n : Int) => cs[i]? = some (.int .i64 n) ∧ Ver.I64 n) 65 hi
 refine ⟨l, ?_, hll, fun n hn => by
  obtain ⟨i, hi, rfl⟩ := List.getElem_of_mem hn
  exact (hlp i _ (List.getElem?_eq_getElem hi)).2⟩
 apply List.ext_getElem?
 intro i
 by_cases hlt : i < 65
 ·obtain ⟨y, hy⟩ : ∃ y, l[i]? = some y := ⟨_, List.getElem?_eq_getElem (by omega)⟩
  rw [(hlp i y hy).1]
  unfold vecL
  rw [List.getElem?_map, hy]; rfl
 ·rw [List.getElem?_eq_none (by omega), List.getElem?_eq_none (by rw [vecL_len]; omega)]
theorem open_vers1 {W : World} {c : Value} {n : Nat} {d : DataW H × List MemPlace} (h : DataW.trod enc Tryz.prog W 0 (fun _ => true) true n 33 [c] = some d) :
  ∃ l : List Ver.V, Vrs W (fun i => i < W.heap.size) c l ∧ l.length ≤ 9223372036854775807 ∧ ∀ x ∈ l, Ver.Bd x := by
 obtain ⟨d, pl⟩ := d
 have hs : ∃ a len cap, c = .slice a len cap := by
  rcases open_slice Tryz.underlying33 h with ⟨hcs, _⟩ | ⟨a, len', cap', m, n', D, Pl, hcs, _, hl, hm, hmm, _, hi⟩
  ·simp at hcs; exact ⟨_, _, _, hcs⟩
  ·simp at hcs; exact ⟨_, _, _, hcs⟩
 obtain ⟨a, len, cap, rfl⟩ := hs
 exact open_vers ⟨a, len, cap, rfl⟩ ⟨n, h⟩
end
open Go.ChangeShapes Go.WideShapes Go.ChangeAt Go.RowKit Go.Deep
theorem Sz.intCells : Tryz.prog.cellsOf 3 = 1 := by kernel_rfl
theorem Sz.rangeCells : Tryz.prog.cellsOf 114 = 2 := by kernel_rfl
theorem Sz.in_heap {W : World} {a : Addr} {v : Value} (h : W.cell? a = some v) : a.block < W.heap.size ∧ a.spot = none := by
 refine ⟨World.block_lt_of_cell? W a h, ?_⟩
 exact World.cell?_spot h
theorem Sz.list_of {α : Type} {p : Nat → α → Prop} : ∀ n, (∀ i, i < n → ∃ x, p i x) → ∃ l : List α, l.length = n ∧ ∀ i x, l[i]? = some x → p i x
 | 0, _ => ⟨[], rfl, fun i x h => by simp at h⟩
 | n + 1, h => by
  obtain ⟨l, hl, hp⟩ := Sz.list_of n (fun i hi => h i (by omega))
  obtain ⟨x, hx⟩ := h n (by omega)
  refine ⟨l ++ [x], by simp [hl], fun i y hy => ?_⟩
  by_cases hi : i < n
  ·rw [List.getElem?_append_left (by omega)] at hy
   exact hp i y hy
  ·have hin : i < (l ++ [x]).length := (List.getElem?_eq_some_iff.1 hy).1
   have : i = n := by simp [hl] at hin; omega
   subst this
   rw [List.getElem?_append_right (by omega), hl, Nat.sub_self] at hy
   simp at hy
   rw [← hy]; exact hx
section
variable {H : Type} {enc : TypeId × Value → H}
end
open Go.ChangeShapes Go.WideShapes Go.ChangeAt Go.RowKit Go.Deep
theorem Flt.stringCells : Tryz.prog.cellsOf 9 = 1 := by kernel_rfl
theorem Flt.clauseCells : Tryz.prog.cellsOf 116 = 3 := by kernel_rfl
section
variable {H : Type} {enc : TypeId × Value → H}
def Flt.In (c : Flt.Cl) : Prop := c.pre.length ≤ 9223372036854775807 ∧ Go.Proofs.YtpafpegcodempaaGreat.Bd (Flt.rg c)
theorem open_cls {W : World} {c : Value} {n : Nat} {d : DataW H × List MemPlace} (h : DataW.trod enc Tryz.prog W 0 (fun _ => true) true n 24 [c] = some d) :
  ∃ (A : Option Addr) (len cap : Nat) (l : List Flt.Cl), c = .slice A len cap ∧ Cls W (fun i => i < W.heap.size) c l ∧ l.length = len ∧ len ≤ cap ∧ len ≤ 9223372036854775807 ∧ ∀ r ∈ l, Flt.In r := by
 obtain ⟨d, pl⟩ := d
 rcases open_slice Tryz.underlying24 h with ⟨hcs, _⟩ | ⟨a, len', cap', m, n', D, Pl, hcs, _, hl, hm, hmm, _, hi⟩
 ·simp at hcs
  exact ⟨none, 0, 0, [], hcs, by rw [hcs]; exact Rws.none _ _ _, rfl, Nat.le_refl _, by omega, fun r hr => by cases hr⟩
 ·simp at hcs
  subst hcs
  simp at hmm
  unfold maxLen at hm
  have hcell : ∀ i, i < len' → ∃ f : Flt.Cl, W.cell? (a.add (i * 3)) = some (.string (mk f.pre)) ∧ W.cell? (a.add (i * 3 + 1)) = some (.int .i64 f.lo) ∧ W.cell? (a.add (i * 3 + 2)) = some (.int .i64 f.hi) ∧ Flt.In f := by
   intro i hil
   obtain ⟨cs', hc, ht⟩ := hi i (by omega)
   rw [Flt.clauseCells] at hc
   obtain ⟨_, hcl, hat⟩ := World.cells?_some hc
   obtain ⟨xs, n'', _, _, _, hxs, hfs⟩ := DataW.trod_struct Tryz.underlying116 ht
   match cs', hcl with
   | [c0, c1, c2], _ =>
    have hl2 : xs.length = 2 := hxs
    have k0 : DataW.trod enc Tryz.prog W 0 (fun _ => true) true n'' 9 (([c0, c1, c2].drop 0).take (Tryz.prog.cellsOf 9)) = xs[0]? := hfs 0 _ rfl
    have k1 : DataW.trod enc Tryz.prog W 0 (fun _ => true) true n'' 114 (([c0, c1, c2].drop 1).take (Tryz.prog.cellsOf 114)) = xs[1]? := hfs 1 _ rfl
    rw [Flt.stringCells, List.getElem?_eq_getElem (by omega)] at k0
    rw [Sz.rangeCells, List.getElem?_eq_getElem (by omega)] at k1
    obtain ⟨ys, n3, _, _, _, hys, hgs⟩ := DataW.trod_struct Tryz.underlying114 k1
    have hl3 : ys.length = 2 := hys
    have k2 : DataW.trod enc Tryz.prog W 0 (fun _ => true) true n3 3 (([c1, c2].drop 0).take (Tryz.prog.cellsOf 3)) = ys[0]? := hgs 0 _ rfl
    have k3 : DataW.trod enc Tryz.prog W 0 (fun _ => true) true n3 3 (([c1, c2].drop 1).take (Tryz.prog.cellsOf 3)) = ys[1]? := hgs 1 _ rfl
    rw [Sz.intCells, List.getElem?_eq_getElem (by omega)] at k2 k3
    obtain ⟨x0, e0, _, w0⟩ := DataW.trod_string Tryz.underlying9 k0
    obtain ⟨x1, e1, _, w1⟩ := DataW.trod_int Tryz.underlying3 k2
    obtain ⟨x2, e2, _, w2⟩ := DataW.trod_int Tryz.underlying3 k3
    have e0 : c0 = .string x0 := by simpa using e0
    have e1 : c1 = .int .i64 x1 := by simpa using e1
    have e2 : c2 = .int .i64 x2 := by simpa using e2
    have b1 := bounds_i64 w1
    have b2 := bounds_i64 w2
    refine ⟨⟨x0.data.toList, x1, x2⟩, ?_, ?_, ?_, ?_, by unfold Bd Flt.rg; simp only; omega⟩
    ·have := hat 0 (by omega)
     rw [e0, Go.Deep.add_add] at this
     rw [mk_of]
     exact this
    ·have := hat 1 (by omega)
     rw [e1, Go.Deep.add_add] at this
     exact this
    ·have := hat 2 (by omega)
     rw [e2, Go.Deep.add_add] at this
     exact this
    ·have := w0
     unfold maxLen at this
     simpa using this
  obtain ⟨l, hll, hlp⟩ := Sz.list_of len' hcell
  refine ⟨some a, len', cap', l, rfl, ⟨some a, cap', by rw [hll], by rw [hll]; exact hl, fun hpos => ?_⟩, hll, hl, by omega, fun r hr => ?_⟩
  ·rw [hll] at hpos
   obtain ⟨x0, h0, _⟩ := hcell 0 hpos
   have hb := Sz.in_heap h0
   obtain ⟨b, off, spot⟩ := a
   have hs : spot = none := by simpa [Addr.add] using hb.2
   subst hs
   have hb1 : b < W.heap.size := by simpa [Addr.add] using hb.1
   refine ⟨b, off, rfl, hb1, hb1, fun i x hx j u hu => ?_⟩
   obtain ⟨q0, q1, q2, _⟩ := hlp i x hx
   rw [Go.WideShapes.add_plain] at q0 q1 q2
   match j, hu with
   | 0, hu => simp [clV] at hu; subst hu; exact q0
   | 1, hu => simp [clV] at hu; subst hu; rw [← Nat.add_assoc] at q1; exact q1
   | 2, hu => simp [clV] at hu; subst hu; rw [← Nat.add_assoc] at q2; exact q2
  ·obtain ⟨i, hil, rfl⟩ := List.getElem_of_mem hr
   exact (hlp i _ (List.getElem?_eq_getElem hil)).2.2.2
end
open Go.ChangeShapes Go.WideShapes Go.ChangeAt Go.RowKit Go.Deep
theorem Know.clsCells : Tryz.prog.cellsOf 24 = 1 := by kernel_rfl
theorem Know.vrsCells : Tryz.prog.cellsOf 33 = 1 := by kernel_rfl
theorem Know.verCells : Tryz.prog.cellsOf 51 = 2 := by kernel_rfl
theorem Know.vecCells : Tryz.prog.cellsOf 32 = 65 := by kernel_rfl
theorem Know.frCells : Tryz.prog.cellsOf 91 = 67 := by kernel_rfl
theorem Know.itCells : Tryz.prog.cellsOf 127 = 67 := by kernel_rfl
theorem Know.frsCells : Tryz.prog.cellsOf 25 = 1 := by kernel_rfl
theorem Know.itsCells : Tryz.prog.cellsOf 26 = 1 := by kernel_rfl
theorem Know.knCells : Tryz.prog.cellsOf 28 = 2 := by kernel_rfl
theorem one_cell {l : List Value} (h : l.length = 1) : ∃ c, l = [c] := by
 match l, h with
 | [c], _ => exact ⟨c, rfl⟩
theorem cut_cells (cs : List Value) (a b c : Nat) (h : a + b = c) : (cs.drop a).take b ++ cs.drop c = cs.drop a := by
 rw [← h, ← List.drop_drop, List.take_append_drop]
theorem cut_len {cs : List Value} {n a b : Nat} (h : cs.length = n) (hab : a + b ≤ n) : ((cs.drop a).take b).length = b := by
 rw [List.length_take, List.length_drop]; omega
theorem cut_last {cs : List Value} {n a b : Nat} (h : cs.length = n) (hab : a + b = n) : (cs.drop a).take b = cs.drop a :=
 List.take_of_length_le (by rw [List.length_drop]; omega)
theorem Know.rows_in {α : Type} {k : Nat} {f : α → List Value} {W : World} {a : Addr} {len cap : Nat} {l : List α} (hk : 0 < k) (hf : ∀ x ∈ l, (f x).length = k) (hll : l.length = len) (hl : len ≤ cap)
  (h : ∀ i x, l[i]? = some x → ∀ j u, (f x)[j]? = some u → W.cell? (a.add (i * k + j)) = some u) : Rws k f W (fun i => i < W.heap.size) (.slice (some a) len cap) l := by
 refine ⟨some a, cap, by rw [hll], by rw [hll]; exact hl, fun hpos => ?_⟩
 obtain ⟨x0, hx0⟩ : ∃ x, l[0]? = some x := ⟨_, List.getElem?_eq_getElem hpos⟩
 obtain ⟨u0, hu0⟩ : ∃ u, (f x0)[0]? = some u := ⟨_, List.getElem?_eq_getElem (by rw [hf x0 (List.mem_of_getElem? hx0)]; exact hk)⟩
 have hb := Ver.in_heap (h 0 x0 hx0 0 u0 hu0)
 obtain ⟨b, off, spot⟩ := a
 have hs : spot = none := by simpa [Addr.add] using hb.2
 subst hs
 have hb1 : b < W.heap.size := by simpa [Addr.add] using hb.1
 refine ⟨b, off, rfl, hb1, hb1, fun i x hx j u hu => ?_⟩
 have := h i x hx j u hu
 rwa [Go.WideShapes.add_plain, ← Nat.add_assoc] at this
section
variable {H : Type} {enc : TypeId × Value → H}
theorem open_rows {α : Type} {W : World} {ts te : TypeId} {k : Nat} {g : α → List Value} {Q : α → Prop} (hu : Tryz.prog.underlying ts = some (.slice te)) (hc : Tryz.prog.cellsOf te = k) (hk : 0 < k) (hg : ∀ a, Q a → (g a).length = k)
  (hE : ∀ {n : Nat} {cs : List Value} {x : DataW H × List MemPlace}, cs.length = k → DataW.trod enc Tryz.prog W 0 (fun _ => true) true n te cs = some x → ∃ a, cs = g a ∧ Q a)
  {c : Value} {n : Nat} {d : DataW H × List MemPlace} (h : DataW.trod enc Tryz.prog W 0 (fun _ => true) true n ts [c] = some d) :
  ∃ l : List α, Rws k g W (fun i => i < W.heap.size) c l ∧ l.length ≤ 9223372036854775807 ∧ ∀ x ∈ l, Q x := by
 obtain ⟨d, pl⟩ := d
 rcases open_slice hu h with ⟨hcs, _⟩ | ⟨a, len', cap', m, n', D, Pl, hcs, _, hl, hm, hmm, _, hi⟩
 ·simp at hcs
  subst hcs
  exact ⟨[], Rws.none _ _ _, by simp, fun r hr => by cases hr⟩
 ·simp at hcs
  subst hcs
  simp at hmm
  unfold maxLen at hm
  obtain ⟨l, hll, hlp⟩ := Ver.list_of (p := fun i x => (∀ j u, (g x)[j]? = some u → W.cell? (a.add (i * k + j)) = some u) ∧ Q x) len' (fun i hil => by
   obtain ⟨cs', hc', ht⟩ := hi i (by omega)
   rw [hc] at hc'
   obtain ⟨_, hcl, hat⟩ := World.cells?_some hc'
   obtain ⟨x, e, hx⟩ := hE hcl ht
   refine ⟨x, fun j u hu => ?_, hx⟩
   have hj : j < k := by have := (List.getElem?_eq_some_iff.1 hu).1; rwa [hg x hx] at this
   have := hat j hj
   rw [Go.Deep.add_add] at this
   rw [this]
   subst e
   rw [← hu])
  have hQ : ∀ x ∈ l, Q x := fun x hx => by
   obtain ⟨i, hil, rfl⟩ := List.getElem_of_mem hx
   exact (hlp i _ (List.getElem?_eq_getElem hil)).2
  exact ⟨l, Know.rows_in hk (fun x hx => hg x (hQ x hx)) hll hl (fun i x hx => (hlp i x hx).1), by omega, hQ⟩
structure FrIn (W : World) (r : RFr) : Prop where
 rin : r.In W (fun i => i < W.heap.size)
 fl : r.x.f.length ≤ 9223372036854775807
 fi : ∀ c ∈ r.x.f, Flt.In c
 nl : r.x.no.length ≤ 9223372036854775807
 vb : ∀ n ∈ r.x.v, Ver.I64 n
 nb : ∀ v ∈ r.x.no, Ver.Bd v
structure ItIn (i : Know.It) : Prop where
 len : i.v.length = 65
 vb : ∀ n ∈ i.v, Ver.I64 n
 ib : Ver.Bd i.item
theorem open_cls1 {W : World} {c : Value} {n : Nat} {d : DataW H × List MemPlace} (h : DataW.trod enc Tryz.prog W 0 (fun _ => true) true n 24 [c] = some d) :
  ∃ l : List Flt.Cl, Cls W (fun i => i < W.heap.size) c l ∧ l.length ≤ 9223372036854775807 ∧ ∀ r ∈ l, Flt.In r := by
 obtain ⟨A, len, cap, l, e, h1, h2, h3, h4, h5⟩ := open_cls h
 exact ⟨l, h1, by omega, h5⟩
theorem open_frag {W : World} {n : Nat} {cs : List Value} {x : DataW H × List MemPlace} (hl : cs.length = 67) (h : DataW.trod enc Tryz.prog W 0 (fun _ => true) true n 91 cs = some x) : ∃ r : RFr, cs = rfV r ∧ FrIn W r := by
 obtain ⟨xs, n'', _, _, _, hxs, hfs⟩ := DataW.trod_struct Tryz.underlying91 h
 have hl3 : xs.length = 3 := hxs
 have k0 : DataW.trod enc Tryz.prog W 0 (fun _ => true) true n'' 24 ((cs.drop 0).take (Tryz.prog.cellsOf 24)) = xs[0]? := hfs 0 _ rfl
 have k1 : DataW.trod enc Tryz.prog W 0 (fun _ => true) true n'' 32 ((cs.drop 1).take (Tryz.prog.cellsOf 32)) = xs[1]? := hfs 1 _ rfl
 have k2 : DataW.trod enc Tryz.prog W 0 (fun _ => true) true n'' 33 ((cs.drop 66).take (Tryz.prog.cellsOf 33)) = xs[2]? := hfs 2 _ rfl
 rw [Know.clsCells, List.getElem?_eq_getElem (by omega)] at k0
 rw [Know.vecCells, List.getElem?_eq_getElem (by omega)] at k1
 rw [Know.vrsCells, List.getElem?_eq_getElem (by omega)] at k2
 have s0 := cut_cells cs 0 1 1 rfl
 have s1 := cut_cells cs 1 65 66 rfl
 have s2 := cut_last hl (show 66 + 1 = 67 from rfl)
 obtain ⟨c0, e0⟩ := one_cell (cut_len (a := 0) (b := 1) hl (by omega))
 obtain ⟨c2, e2⟩ := one_cell (cut_len (a := 66) (b := 1) hl (by omega))
 rw [e0] at k0
 rw [e2] at k2
 obtain ⟨f, f1, f2, f3⟩ := open_cls1 k0
 obtain ⟨v, v1, v2, v3⟩ := open_vec65 (cut_len hl (by omega)) k1
 obtain ⟨no, n1, n2, n3⟩ := open_vers1 k2
 refine ⟨⟨c0, c2, ⟨f, v, no⟩⟩, ?_, ⟨f1, n1, v2⟩, f2, f3, n2, v3, n3⟩
 rw [List.drop_zero] at s0
 rw [← s0, ← s1, ← s2, e2, v1]
 have : cs.take 1 = [c0] := by rw [← e0, List.drop_zero]
 rw [this]
 rfl
theorem open_item {W : World} {n : Nat} {cs : List Value} {x : DataW H × List MemPlace} (hl : cs.length = 67) (h : DataW.trod enc Tryz.prog W 0 (fun _ => true) true n 127 cs = some x) : ∃ i : Know.It, cs = itV i ∧ ItIn i := by
 obtain ⟨xs, n'', _, _, _, hxs, hfs⟩ := DataW.trod_struct Tryz.underlying127 h
 have hl3 : xs.length = 2 := hxs
 have k0 : DataW.trod enc Tryz.prog W 0 (fun _ => true) true n'' 51 ((cs.drop 0).take (Tryz.prog.cellsOf 51)) = xs[0]? := hfs 0 _ rfl
 have k1 : DataW.trod enc Tryz.prog W 0 (fun _ => true) true n'' 32 ((cs.drop 2).take (Tryz.prog.cellsOf 32)) = xs[1]? := hfs 1 _ rfl
 rw [Know.verCells, List.getElem?_eq_getElem (by omega)] at k0
 rw [Know.vecCells, List.getElem?_eq_getElem (by omega)] at k1
 have s0 := cut_cells cs 0 2 2 rfl
 have s1 := cut_last hl (show 2 + 65 = 67 from rfl)
 obtain ⟨i, i1, i2⟩ := open_ver2 (cut_len hl (by omega)) k0
 obtain ⟨v, v1, v2, v3⟩ := open_vec65 (cut_len hl (by omega)) k1
 refine ⟨⟨i, v⟩, ?_, v2, v3, i2⟩
 rw [List.drop_zero] at s0 i1
 rw [← s0, ← s1, v1, i1]
 rfl
structure KnIn (W : World) (a b : Value) (rs : List RFr) (m : List Know.It) : Prop where
 rows : Rws 67 rfV W (fun i => i < W.heap.size) a rs
 ins : ∀ r ∈ rs, FrIn W r
 len : rs.length ≤ 9223372036854775807
 its : Rws 67 itV W (fun i => i < W.heap.size) b m
 inI : ∀ i ∈ m, ItIn i
 lenI : m.length ≤ 9223372036854775807
theorem open_know2 {W : World} {n : Nat} {cs : List Value} {x : DataW H × List MemPlace} (hl : cs.length = 2) (h : DataW.trod enc Tryz.prog W 0 (fun _ => true) true n 28 cs = some x) : ∃ a b rs m, cs = [a, b] ∧ KnIn W a b rs m := by
 obtain ⟨xs, n'', _, _, _, hxs, hfs⟩ := DataW.trod_struct Tryz.underlying28 h
 have hl3 : xs.length = 2 := hxs
 match cs, hl with
 | [a, b], _ =>
  have k0 : DataW.trod enc Tryz.prog W 0 (fun _ => true) true n'' 25 (([a, b].drop 0).take (Tryz.prog.cellsOf 25)) = xs[0]? := hfs 0 _ rfl
  have k1 : DataW.trod enc Tryz.prog W 0 (fun _ => true) true n'' 26 (([a, b].drop 1).take (Tryz.prog.cellsOf 26)) = xs[1]? := hfs 1 _ rfl
  rw [Know.frsCells, List.getElem?_eq_getElem (by omega)] at k0
  rw [Know.itsCells, List.getElem?_eq_getElem (by omega)] at k1
  obtain ⟨rs, r1, r2, r3⟩ := open_rows (g := rfV) (Q := FrIn W) Tryz.underlying25 Know.frCells (by decide) (fun r hr => rf_len hr.rin.len) (fun hl h => open_frag hl h) (show DataW.trod enc Tryz.prog W 0 (fun _ => true) true n'' 25 [a] = _ from k0)
  obtain ⟨m, m1, m2, m3⟩ := open_rows (g := itV) (Q := ItIn) Tryz.underlying26 Know.itCells (by decide) (fun i hi => it_len hi.len) (fun hl h => open_item hl h) (show DataW.trod enc Tryz.prog W 0 (fun _ => true) true n'' 26 [b] = _ from k1)
  exact ⟨a, b, rs, m, rfl, r1, r3, r2, m1, m3, m2⟩
theorem open_know {W : World} {v : Value} {d : DataW H} {p : List MemPlace} (hv : ∃ cs, v = .agg cs ∧ cs.size = Tryz.prog.cellsOf 28) (h : DataW.Trod enc Tryz.prog W 0 (fun _ => true) true 28 v d p) : ∃ a b rs m, v = .agg #[a, b] ∧ KnIn W a b rs m := by
 obtain ⟨cs, rfl, hcs⟩ := hv
 rw [Know.knCells] at hcs
 obtain ⟨fuel, hf⟩ := h
 obtain ⟨cl⟩ := cs
 obtain ⟨a, b, rs, m, e, hx⟩ := open_know2 (cs := cl) (by simpa using hcs) hf
 exact ⟨a, b, rs, m, by rw [e], hx⟩
end
open Go.RowKit Go.Sort
open Go.RowKit Go.Sort
theorem step_build1 {ops : Array Oper} {o' : Oper} {a : Act} {w : World} {K : Act → World → Prop} {Q : Exit → Act → World → Prop} {E : Prop} (hgd : o'.guard = none) (t e : TypeId) (x : Operand) (ho : o'.op = .buildSlice t 1 #[(0, x)]) {cs : List Value} {i : TypeInfo} {z : Value} (hx : a.eval x = .agg cs.toArray)
  (hu : Tryz.prog.underlying t = some (.slice e)) (hi : Tryz.prog.info? e = some i) (hz : i.zero = some z) (h67 : i.size = 67) (hl : cs.length = 67)
  (k : K (a.put o'.dst (.slice (some ⟨w.heap.size, 0, none⟩) 1 1)) (w.alloc (.cells cs.toArray e))) : if Region.wanted o' (yielded ops a.tmps) = true then Oper.wp Tryz.prog o' a w K Q else E := by
 rw [if_pos (by simp [Region.wanted, hgd])]
 refine wp_buildSlice t e 1 #[(0, x)] ho cs.toArray i z hu hi hz (by rw [h67]; decide) (by rw [h67]; decide) ?_ k
 have := Great.fill_whole (s := 67) (by decide) [.agg cs.toArray] ((Array.range (1 * i.size)).map (z.cells[· % z.cells.size]!)) (fun v hv => by rw [List.mem_singleton.1 hv]; show cs.toArray.size = 67; rw [List.size_toArray, hl]) (by rw [h67]; simp)
 rw [h67] at this ⊢
 simpa [hx, Value.cells] using this
open Go.RowKit
def Flt.light (f : List Flt.Cl) : Prop := (∀ c ∈ f, c.pre.length ≤ 100) ∧ f.length ≤ 24
instance (f : List Flt.Cl) : Decidable (Flt.light f) := inferInstanceAs (Decidable (_ ∧ _))
def Flt.sane (f : List Flt.Cl) : List Flt.Cl := f.filter fun c => decide (Flt.Right c)
theorem light_any {w : World} {F : Nat → Prop} {v : Value} {f : List Flt.Cl} (h : Cls w F v f) (hl : f.length ≤ 9223372036854775807) (hs : ∀ c ∈ f, c.pre.length ≤ 9223372036854775807) :
  Calls Tryz.prog 40 #[v] w fun e w' => e = .returned (.bool (decide (Flt.light f))) ∧ Below w.heap.size w w' := by
 obtain ⟨A, cap, rfl, hcap⟩ := h.parts
 have H := Lib.hid h
 have HS := Lib.hid hs
 have hl' : (f.length : Int) ≤ 9223372036854775807 := by omega
 clear h hs
 go_enter Tryz.func40, Tryz.ntmps40
 go_wp2_with fail
 go_loopw [3] (fun i wr => ∃ n : Nat, n ≤ f.length ∧ i = .int .i64 (n : Int) ∧ Hid (∀ c ∈ f.take n, c.pre.length ≤ 100) ∧ Below w.heap.size w wr) (fun i _ => f.length - (intOf i).toNat)
 case atStart => exact ⟨0, Nat.zero_le _, rfl, Lib.hid (by simp), Below.refl _ _⟩
 case round =>
  obtain ⟨n, hn, rfl, hall, hbel⟩ := hrel
  by_cases hlt : n < f.length
  ·obtain ⟨b, o, cap', e, -, -, hb⟩ := H.out.block (by omega)
   injection e with e1 e2 e3
   subst e1 e3
   clear e2
   obtain ⟨x, hx⟩ : ∃ x, f[n]? = some x := ⟨_, List.getElem?_eq_getElem hlt⟩
   have hpx := HS.out x (List.mem_of_getElem? hx)
   have hn0 : (0 : Int) ≤ (n : Int) := by omega
   have hn1 : (n : Int) < (f.length : Int) := by omega
   obtain ⟨c0, c1, c2⟩ := Cls.at (H.out.below hbel) hx
   have lx := mk_len x.pre
   have Hbel := Lib.hid hbel
   clear hbel c1 c2
   by_cases hx1 : x.pre.length ≤ 100
   ·have hnext : Hid (∀ c ∈ f.take (n + 1), c.pre.length ≤ 100) := Lib.hid (by
     intro c hc
     obtain ⟨h1, e1⟩ := List.getElem?_eq_some_iff.1 hx
     rw [List.take_succ_eq_append_getElem h1, e1] at hc
     rcases List.mem_append.1 hc with hc | hc
     ·exact hall.out c hc
     ·rw [List.mem_singleton.1 hc]; exact hx1)
    have g1 : ¬ (100 : Int) < ((mk x.pre).size : Int) := by omega
    have g2 : ((mk x.pre).size : Int) ≤ 9223372036854775807 := by omega
    clear hx hall lx hx1 hpx
    generalize mk x.pre = xs at *
    go_wp2_with fail
    exact ⟨⟨n + 1, by omega, by go_num, hnext, Hbel.out⟩, by show f.length - ((n : Int) + 1).toNat < f.length - (n : Int).toNat; omega⟩
   ·have hno : Hid (decide (Flt.light f) = false) := Lib.hid (decide_eq_false (fun h => hx1 (h.1 x (List.mem_of_getElem? hx))))
    have g1 : (100 : Int) < ((mk x.pre).size : Int) := by omega
    have g2 : ((mk x.pre).size : Int) ≤ 9223372036854775807 := by omega
    clear hx hall lx hx1 hpx
    generalize mk x.pre = xs at *
    go_wp2_with fail
    go_ret
    exact ⟨by rw [hno.out]; rfl, Hbel.out⟩
  ·obtain rfl : n = f.length := by omega
   have Hbel := Lib.hid hbel
   clear hbel
   by_cases h24 : f.length ≤ 24
   ·have hyes : Hid (decide (Flt.light f) = true) := Lib.hid (decide_eq_true ⟨by have := hall.out; rwa [List.take_length] at this, h24⟩)
    have g1 : decide ((f.length : Int) ≤ 24) = true := decide_eq_true (by omega)
    clear hall
    go_wp2_with fail
    go_ret
    exact ⟨by rw [hyes.out]; rfl, Hbel.out⟩
   ·have hno : Hid (decide (Flt.light f) = false) := Lib.hid (decide_eq_false (fun h => h24 h.2))
    have g1 : decide ((f.length : Int) ≤ 24) = false := decide_eq_false (by omega)
    clear hall
    go_wp2_with fail
    go_ret
    exact ⟨by rw [hno.out]; rfl, Hbel.out⟩
theorem Flt.sane_take {f : List Flt.Cl} {n : Nat} {c : Flt.Cl} (hc : f[n]? = some c) : Flt.sane (f.take (n + 1)) = Flt.sane (f.take n) ++ if decide (Flt.Right c) = true then [c] else [] := by
 obtain ⟨hl, he⟩ := List.getElem?_eq_some_iff.1 hc
 rw [List.take_succ_eq_append_getElem hl, he]
 unfold Flt.sane
 rw [List.filter_append]
 congr 1
 by_cases h : Flt.Right c <;> simp [h]
theorem Flt.sane_right (f : List Flt.Cl) : ∀ c ∈ Flt.sane f, Flt.Right c := fun c hc => of_decide_eq_true (List.mem_filter.1 hc).2
theorem Flt.sane_len (f : List Flt.Cl) : (Flt.sane f).length ≤ f.length := List.length_filter_le _ _
theorem sane_any {w : World} {F : Nat → Prop} {v : Value} {f : List Flt.Cl} (h : Cls w F v f) (hl : f.length ≤ 100000) (hs : ∀ c ∈ f, c.pre.length ≤ 100000) :
  Calls Tryz.prog 43 #[v] w fun e w' => ∃ v', e = .returned v' ∧ RowsOwn 116 3 clV w (Flt.sane f) v' w' := by
 obtain ⟨A, cap, rfl, hcap⟩ := h.parts
 obtain ⟨i0, hi0, hz0, hz1, hz2⟩ := info_parts clauseInfo
 have H := Lib.hid h
 have HS := Lib.hid hs
 have hl' : (f.length : Int) ≤ 100000 := by omega
 have HL : Hid (f.length ≤ 100000) := Lib.hid hl
 clear h hs
 go_enter Tryz.func43, Tryz.ntmps43
 go_wp2_with fail
 go_loopw [3, 4] (fun out i wr => ∃ n : Nat, n ≤ f.length ∧ i = .int .i64 (n : Int) ∧ RowsOwn 116 3 clV w (Flt.sane (f.take n)) out wr) (fun _ i _ => f.length - (intOf i).toNat)
 case atStart => exact ⟨0, Nat.zero_le _, rfl, RowsOwn.start _ _ _ w⟩
 case round =>
  obtain ⟨n, hn, rfl, hown⟩ := hrel
  by_cases hlt : n < f.length
  ·obtain ⟨b, o, cap', e, -, -, hb⟩ := H.out.block (by omega)
   injection e with e1 e2 e3
   subst e1 e3
   clear e2
   obtain ⟨x, hx⟩ : ∃ x, f[n]? = some x := ⟨_, List.getElem?_eq_getElem hlt⟩
   have hpx := HS.out x (List.mem_of_getElem? hx)
   have hn0 : (0 : Int) ≤ (n : Int) := by omega
   have hn1 : (n : Int) < (f.length : Int) := by omega
   have CA : Hid (∀ W, Below w.heap.size w W → W.cell? ⟨b, o + n * 3, none⟩ = some (.string (mk x.pre)) ∧ W.cell? ⟨b, o + n * 3 + 1, none⟩ = some (.int .i64 x.lo) ∧ W.cell? ⟨b, o + n * 3 + 2, none⟩ = some (.int .i64 x.hi)) := Lib.hid (fun W hW => Cls.at (H.out.below hW) hx)
   obtain ⟨c0, c1, c2⟩ := CA.out wr hown.2
   have hst := Lib.hid (Flt.sane_take hx)
   have hlen : Hid ((Flt.sane (f.take n)).length ≤ n) := Lib.hid (Nat.le_trans (Flt.sane_len _) (by rw [List.length_take]; omega))
   have RI := Lib.hid (ref_fright x wr hpx)
   obtain ⟨xp, x1, x2⟩ := x
   simp only at c0 c1 c2 CA
   have Hown := Lib.hid hown
   clear hown hx
   cases hr : decide (Flt.Right ⟨xp, x1, x2⟩)
   ·have RI : Hid (Calls Tryz.prog 118 #[.agg #[.string (mk xp), .int .i64 x1, .int .i64 x2]] wr fun e w' => e = .returned (.bool false) ∧ Below wr.heap.size wr w') := Lib.hid (by rw [← hr]; exact RI.out)
    have hst' : Hid (Flt.sane (f.take (n + 1)) = Flt.sane (f.take n)) := Lib.hid (by rw [hst.out, hr, if_neg (by simp), List.append_nil])
    clear hst hr
    go_wp2_with fail
    refine (RI.out).mono ?_
    rintro e w1 ⟨rfl, hb1⟩
    have hnew := Lib.hid (Hown.out.below hb1)
    clear hb1
    go_wp2_with fail
    exact ⟨⟨n + 1, by omega, by go_num, by rw [hst'.out]; exact hnew.out⟩, by show f.length - ((n : Int) + 1).toNat < f.length - (n : Int).toNat; omega⟩
   ·have RI : Hid (Calls Tryz.prog 118 #[.agg #[.string (mk xp), .int .i64 x1, .int .i64 x2]] wr fun e w' => e = .returned (.bool true) ∧ Below wr.heap.size wr w') := Lib.hid (by rw [← hr]; exact RI.out)
    have hst' : Hid (Flt.sane (f.take (n + 1)) = Flt.sane (f.take n) ++ [⟨xp, x1, x2⟩]) := Lib.hid (by rw [hst.out, hr, if_pos rfl])
    have hlen3 := hlen.out
    clear hst hr
    generalize Flt.sane (f.take n) = out at *
    go_wp2_with fail
    refine (RI.out).mono ?_
    rintro e w1 ⟨rfl, hb1⟩
    have Hown2 := Lib.hid (Hown.out.below hb1)
    obtain ⟨d0, d1, d2⟩ := CA.out w1 Hown2.out.2
    clear hb1 c0 c1 c2
    have hown3 := Hown2.out.1.alloc (.cells #[.string (mk xp), .int .i64 x1, .int .i64 x2] 116)
    have hmade := cl_made w1 116 xp x1 x2
    have hsz3 : w.heap.size ≤ (w1.alloc (.cells #[.string (mk xp), .int .i64 x1, .int .i64 x2] 116)).heap.size := by have := Hown2.out.2.size; simp; omega
    go_wp2_with (at_builtin; refine wp_joins (f := clV) (k := 3) rfl _ _ 24 rfl (w.heap.size) 116 i0 (.agg #[.string ⟨#[]⟩, .int .i64 0, .int .i64 0]) 32 Tryz.underlying24 hi0 hz0 hz1 hz2 rfl (by decide) rfl rfl hown3 hmade (fun _ _ => rfl) (fun x _ => cl_one x) ?c3 ?c4 hsz3 ?_)
    case c3 => have := HL.out; unfold maxLen; first | omega | (simp <;> omega)
    case c4 => have := HL.out; first | omega | (simp <;> omega)
    intro v3 w3 h1 h2 _
    have hnew := Lib.hid (Hown2.out.more (x := (⟨xp, x1, x2⟩ : Flt.Cl)) (v' := v3) (by simpa [clV] using h1) h2)
    clear h1 h2 hown3 hmade
    go_wp2_with fail
    exact ⟨⟨n + 1, by omega, by go_num, by rw [hst'.out]; exact hnew.out⟩, by show f.length - ((n : Int) + 1).toNat < f.length - (n : Int).toNat; omega⟩
  ·obtain rfl : n = f.length := by omega
   rw [List.take_length] at hown
   have Hown := Lib.hid hown
   clear hown
   go_wp2_with fail
   go_ret
   exact ⟨_, rfl, Hown.out⟩
open Go.RowKit Go.Sort
def Know.saneF (f : List Flt.Cl) : List Flt.Cl := if Flt.light f then Flt.sane f else []
theorem Know.saneF_fine (f : List Flt.Cl) : (Know.saneF f).length ≤ 24 ∧ ∀ c ∈ Know.saneF f, Flt.Right c := by
 unfold Know.saneF
 by_cases h : Flt.light f
 ·rw [if_pos h]
  exact ⟨Nat.le_trans (Flt.sane_len f) h.2, Flt.sane_right f⟩
 ·rw [if_neg h]
  exact ⟨by simp, fun c hc => by cases hc⟩
def Know.cutFr (x : Know.Fr) : Know.Fr := ⟨Know.saneF x.f, x.v, x.no.take 12⟩
def Know.cutK (k : Know.K) : Know.K := ⟨(k.frags.take 6).map Know.cutFr, k.items.take 12⟩
theorem low12 (a : Nat) (w : World) : Calls Tryz.prog 42 #[.int .i64 a, .int .i64 12] w fun e w' => e = .returned (.int .i64 ((min a 12 : Nat) : Int)) ∧ w = w' := by
 by_cases h : a < 12
 ·have e : min a 12 = a := by omega
  have h1 : (a : Int) < 12 := by omega
  rw [e]
  go_enter Tryz.func42, Tryz.ntmps42
  go_wp2_with fail
  go_ret
  exact ⟨rfl, rfl⟩
 ·have e : min a 12 = 12 := by omega
  have h1 : ¬ (a : Int) < 12 := by omega
  rw [e]
  go_enter Tryz.func42, Tryz.ntmps42
  go_wp2_with fail
  go_ret
  exact ⟨rfl, rfl⟩
end Go.Proofs.YtpafpegcodempaaGreat
