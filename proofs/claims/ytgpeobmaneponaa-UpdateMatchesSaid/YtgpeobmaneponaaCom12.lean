import Derived.Test.YtgpeobmaneponaaCom2
import Derived.Test.YtgpeobmaneponaaCom5
import Derived.Test.YtgpeobmaneponaaCom11
import Derived.Deep.Fields
set_option maxRecDepth 100000
set_option linter.unusedVariables false
set_option linter.unusedSimpArgs false
set_option maxHeartbeats 12800000
namespace Go.Proofs.Ytgpeobmaneponaa
open Go.ChangeShapes Go.WideShapes Go.ChangeAt Go.RowKit Go.Deep
theorem Ver.intCells : Try.prog.cellsOf 3 = 1 := by kernel_rfl
theorem Ver.verCells : Try.prog.cellsOf 23 = 2 := by kernel_rfl
theorem Ver.stpCells : Try.prog.cellsOf 25 = 3 := by kernel_rfl
theorem Ver.in_heap {W : World} {a : Addr} {v : Value} (h : W.cell? a = some v) : a.block < W.heap.size ∧ a.spot = none :=
 ⟨World.block_lt_of_cell? W a h, World.cell?_spot h⟩
theorem Ver.list_of {α : Type} {p : Nat → α → Prop} : ∀ n, (∀ i, i < n → ∃ x, p i x) → ∃ l : List α, l.length = n ∧ ∀ i x, l[i]? = some x → p i x
 | 0, _ => ⟨[], rfl, fun i x h => by simp at h⟩
 | n + 1, h => by
  obtain ⟨l, hl, hp⟩ := Ver.list_of n (fun i hi => h i (by omega))
  obtain ⟨x, hx⟩ := h n (by omega)
  refine ⟨l ++ [x], by simp [hl], fun i y hy => ?_⟩
  by_cases hi : i < n
  ·rw [List.getElem?_append_left (by omega)] at hy
   exact hp i y hy
  ·have hin : i < (l ++ [x]).length := (List.getElem?_eq_some_iff.1 hy).1
   have : i = n := by simp [hl] at hin; omega
   subst this
   rw [List.getElem?_append_right (by omega), hl, Nat.sub_self] at hy
   simp at hy
   rw [← hy]; exact hx
theorem Ver.rows_of {α : Type} {k : Nat} {f : α → List Value} {W : World} {a : Addr} {len cap : Nat} {l : List α} (hk : 0 < k) (hf : ∀ x, (f x).length = k) (hll : l.length = len) (hl : len ≤ cap)
  (h : ∀ i x, l[i]? = some x → ∀ j u, (f x)[j]? = some u → W.cell? (a.add (i * k + j)) = some u) : Rws k f W (fun i => i < W.heap.size) (.slice (some a) len cap) l := by
 refine ⟨some a, cap, by rw [hll], by rw [hll]; exact hl, fun hpos => ?_⟩
 obtain ⟨x0, hx0⟩ : ∃ x, l[0]? = some x := ⟨_, List.getElem?_eq_getElem hpos⟩
 obtain ⟨u0, hu0⟩ : ∃ u, (f x0)[0]? = some u := ⟨_, List.getElem?_eq_getElem (by rw [hf]; exact hk)⟩
 have hb := Ver.in_heap (h 0 x0 hx0 0 u0 hu0)
 obtain ⟨b, off, spot⟩ := a
 have hs : spot = none := by simpa [Addr.add] using hb.2
 subst hs
 have hb1 : b < W.heap.size := by simpa [Addr.add] using hb.1
 refine ⟨b, off, rfl, hb1, hb1, fun i x hx j u hu => ?_⟩
 have := h i x hx j u hu
 rwa [Go.WideShapes.add_plain, ← Nat.add_assoc] at this
section
variable {H : Type} {enc : TypeId × Value → H}
theorem open_ver2 {W : World} {n : Nat} {cs : List Value} {x : DataW H × List MemPlace} (hl : cs.length = 2) (h : DataW.trod enc Try.prog W 0 (fun _ => true) true n 23 cs = some x) : ∃ v : Ver.V, cs = verV v ∧ Ver.Bd v := by
 obtain ⟨xs, n'', _, _, _, hxs, hfs⟩ := DataW.trod_struct Try.underlying23 h
 match cs, hl with
 | [c0, c1], _ =>
  have hl2 : xs.length = 2 := hxs
  have k0 : DataW.trod enc Try.prog W 0 (fun _ => true) true n'' 3 (([c0, c1].drop 0).take (Try.prog.cellsOf 3)) = xs[0]? := hfs 0 _ rfl
  have k1 : DataW.trod enc Try.prog W 0 (fun _ => true) true n'' 3 (([c0, c1].drop 1).take (Try.prog.cellsOf 3)) = xs[1]? := hfs 1 _ rfl
  rw [Ver.intCells, List.getElem?_eq_getElem (by omega)] at k0 k1
  obtain ⟨x0, e0, _, w0⟩ := DataW.trod_int Try.underlying3 k0
  obtain ⟨x1, e1, _, w1⟩ := DataW.trod_int Try.underlying3 k1
  have e0 : c0 = .int .i64 x0 := by simpa using e0
  have e1 : c1 = .int .i64 x1 := by simpa using e1
  have b0 := bounds_i64 w0
  have b1 := bounds_i64 w1
  exact ⟨⟨x0, x1⟩, by rw [e0, e1]; rfl, by unfold Ver.Bd Ver.I64; simp only; omega⟩
theorem open_stp3 {W : World} {n : Nat} {cs : List Value} {x : DataW H × List MemPlace} (hl : cs.length = 3) (h : DataW.trod enc Try.prog W 0 (fun _ => true) true n 25 cs = some x) : ∃ s : Ver.S, cs = stpV s ∧ Ver.BdS s := by
 obtain ⟨xs, n'', _, _, _, hxs, hfs⟩ := DataW.trod_struct Try.underlying25 h
 match cs, hl with
 | [c0, c1, c2], _ =>
  have hl2 : xs.length = 2 := hxs
  have k0 : DataW.trod enc Try.prog W 0 (fun _ => true) true n'' 23 (([c0, c1, c2].drop 0).take (Try.prog.cellsOf 23)) = xs[0]? := hfs 0 _ rfl
  have k1 : DataW.trod enc Try.prog W 0 (fun _ => true) true n'' 3 (([c0, c1, c2].drop 2).take (Try.prog.cellsOf 3)) = xs[1]? := hfs 1 _ rfl
  rw [Ver.verCells, List.getElem?_eq_getElem (by omega)] at k0
  rw [Ver.intCells, List.getElem?_eq_getElem (by omega)] at k1
  obtain ⟨v, ev, hv⟩ := open_ver2 (cs := [c0, c1]) rfl k0
  obtain ⟨x1, e1, _, w1⟩ := DataW.trod_int Try.underlying3 k1
  have e1 : c2 = .int .i64 x1 := by simpa using e1
  have b1 := bounds_i64 w1
  have ev : c0 = .int .i64 v.by_ ∧ c1 = .int .i64 v.n := by simpa [verV] using ev
  exact ⟨⟨x1, v⟩, by rw [ev.1, ev.2, e1]; rfl, hv, by unfold Ver.I64; simp only; omega⟩
theorem open_ver {W : World} {v : Value} {d : DataW H} {p : List MemPlace} (hv : ∃ cs, v = .agg cs ∧ cs.size = Try.prog.cellsOf 23) (h : DataW.Trod enc Try.prog W 0 (fun _ => true) true 23 v d p) : ∃ x : Ver.V, v = verA x ∧ Ver.Bd x := by
 obtain ⟨cs, rfl, hcs⟩ := hv
 rw [Ver.verCells] at hcs
 obtain ⟨fuel, hf⟩ := h
 obtain ⟨cl⟩ := cs
 obtain ⟨x, e, hx⟩ := open_ver2 (cs := cl) (by simpa using hcs) hf
 exact ⟨x, by rw [e]; rfl, hx⟩
end
end Go.Proofs.Ytgpeobmaneponaa
namespace Go.Proofs.Ytgpeobmaneponaa
open Go.ChangeShapes Go.WideShapes Go.ChangeAt Go.RowKit Go.Deep
theorem Sz.intCells : Try.prog.cellsOf 3 = 1 := by kernel_rfl
theorem Sz.rangeCells : Try.prog.cellsOf 63 = 2 := by kernel_rfl
theorem Sz.in_heap {W : World} {a : Addr} {v : Value} (h : W.cell? a = some v) : a.block < W.heap.size ∧ a.spot = none := by
 refine ⟨World.block_lt_of_cell? W a h, ?_⟩
 exact World.cell?_spot h
theorem Sz.list_of {α : Type} {p : Nat → α → Prop} : ∀ n, (∀ i, i < n → ∃ x, p i x) → ∃ l : List α, l.length = n ∧ ∀ i x, l[i]? = some x → p i x
 | 0, _ => ⟨[], rfl, fun i x h => by simp at h⟩
 | n + 1, h => by
  obtain ⟨l, hl, hp⟩ := Sz.list_of n (fun i hi => h i (by omega))
  obtain ⟨x, hx⟩ := h n (by omega)
  refine ⟨l ++ [x], by simp [hl], fun i y hy => ?_⟩
  by_cases hi : i < n
  ·rw [List.getElem?_append_left (by omega)] at hy
   exact hp i y hy
  ·have hin : i < (l ++ [x]).length := (List.getElem?_eq_some_iff.1 hy).1
   have : i = n := by simp [hl] at hin; omega
   subst this
   rw [List.getElem?_append_right (by omega), hl, Nat.sub_self] at hy
   simp at hy
   rw [← hy]; exact hx
section
variable {H : Type} {enc : TypeId × Value → H}
end
end Go.Proofs.Ytgpeobmaneponaa
namespace Go.Proofs.Ytgpeobmaneponaa
open Go.ChangeShapes Go.WideShapes Go.ChangeAt Go.RowKit Go.Deep
theorem Flt.stringCells : Try.prog.cellsOf 9 = 1 := by kernel_rfl
theorem Flt.boolCells : Try.prog.cellsOf 4 = 1 := by kernel_rfl
theorem Flt.clauseCells : Try.prog.cellsOf 65 = 3 := by kernel_rfl
section
variable {H : Type} {enc : TypeId × Value → H}
def Flt.In (c : Flt.Cl) : Prop := c.pre.length ≤ 9223372036854775807 ∧ Go.Proofs.Ytgpeobmaneponaa.Bd (Flt.rg c)
theorem open_cls {W : World} {c : Value} {n : Nat} {d : DataW H × List MemPlace} (h : DataW.trod enc Try.prog W 0 (fun _ => true) true n 40 [c] = some d) :
  ∃ (A : Option Addr) (len cap : Nat) (l : List Flt.Cl), c = .slice A len cap ∧ Cls W (fun i => i < W.heap.size) c l ∧ l.length = len ∧ len ≤ cap ∧ len ≤ 9223372036854775807 ∧ ∀ r ∈ l, Flt.In r := by
 obtain ⟨d, pl⟩ := d
 rcases open_slice Try.underlying40 h with ⟨hcs, _⟩ | ⟨a, len', cap', m, n', D, Pl, hcs, _, hl, hm, hmm, _, hi⟩
 ·simp at hcs
  exact ⟨none, 0, 0, [], hcs, by rw [hcs]; exact Rws.none _ _ _, rfl, Nat.le_refl _, by omega, fun r hr => by cases hr⟩
 ·simp at hcs
  subst hcs
  simp at hmm
  unfold maxLen at hm
  have hcell : ∀ i, i < len' → ∃ f : Flt.Cl, W.cell? (a.add (i * 3)) = some (.string (mk f.pre)) ∧ W.cell? (a.add (i * 3 + 1)) = some (.int .i64 f.lo) ∧ W.cell? (a.add (i * 3 + 2)) = some (.int .i64 f.hi) ∧ Flt.In f := by
   intro i hil
   obtain ⟨cs', hc, ht⟩ := hi i (by omega)
   rw [Flt.clauseCells] at hc
   obtain ⟨_, hcl, hat⟩ := World.cells?_some hc
   obtain ⟨xs, n'', _, _, _, hxs, hfs⟩ := DataW.trod_struct Try.underlying65 ht
   match cs', hcl with
   | [c0, c1, c2], _ =>
    have hl2 : xs.length = 2 := hxs
    have k0 : DataW.trod enc Try.prog W 0 (fun _ => true) true n'' 9 (([c0, c1, c2].drop 0).take (Try.prog.cellsOf 9)) = xs[0]? := hfs 0 _ rfl
    have k1 : DataW.trod enc Try.prog W 0 (fun _ => true) true n'' 63 (([c0, c1, c2].drop 1).take (Try.prog.cellsOf 63)) = xs[1]? := hfs 1 _ rfl
    rw [Flt.stringCells, List.getElem?_eq_getElem (by omega)] at k0
    rw [Sz.rangeCells, List.getElem?_eq_getElem (by omega)] at k1
    obtain ⟨ys, n3, _, _, _, hys, hgs⟩ := DataW.trod_struct Try.underlying63 k1
    have hl3 : ys.length = 2 := hys
    have k2 : DataW.trod enc Try.prog W 0 (fun _ => true) true n3 3 (([c1, c2].drop 0).take (Try.prog.cellsOf 3)) = ys[0]? := hgs 0 _ rfl
    have k3 : DataW.trod enc Try.prog W 0 (fun _ => true) true n3 3 (([c1, c2].drop 1).take (Try.prog.cellsOf 3)) = ys[1]? := hgs 1 _ rfl
    rw [Sz.intCells, List.getElem?_eq_getElem (by omega)] at k2 k3
    obtain ⟨x0, e0, _, w0⟩ := DataW.trod_string Try.underlying9 k0
    obtain ⟨x1, e1, _, w1⟩ := DataW.trod_int Try.underlying3 k2
    obtain ⟨x2, e2, _, w2⟩ := DataW.trod_int Try.underlying3 k3
    have e0 : c0 = .string x0 := by simpa using e0
    have e1 : c1 = .int .i64 x1 := by simpa using e1
    have e2 : c2 = .int .i64 x2 := by simpa using e2
    have b1 := bounds_i64 w1
    have b2 := bounds_i64 w2
    refine ⟨⟨x0.data.toList, x1, x2⟩, ?_, ?_, ?_, ?_, by unfold Bd Flt.rg; simp only; omega⟩
    ·have := hat 0 (by omega)
     rw [e0, Go.Deep.add_add] at this
     rw [mk_of]
     exact this
    ·have := hat 1 (by omega)
     rw [e1, Go.Deep.add_add] at this
     exact this
    ·have := hat 2 (by omega)
     rw [e2, Go.Deep.add_add] at this
     exact this
    ·have := w0
     unfold maxLen at this
     simpa using this
  obtain ⟨l, hll, hlp⟩ := Sz.list_of len' hcell
  refine ⟨some a, len', cap', l, rfl, ⟨some a, cap', by rw [hll], by rw [hll]; exact hl, fun hpos => ?_⟩, hll, hl, by omega, fun r hr => ?_⟩
  ·rw [hll] at hpos
   obtain ⟨x0, h0, _⟩ := hcell 0 hpos
   have hb := Sz.in_heap h0
   obtain ⟨b, off, spot⟩ := a
   have hs : spot = none := by simpa [Addr.add] using hb.2
   subst hs
   have hb1 : b < W.heap.size := by simpa [Addr.add] using hb.1
   refine ⟨b, off, rfl, hb1, hb1, fun i x hx j u hu => ?_⟩
   obtain ⟨q0, q1, q2, _⟩ := hlp i x hx
   rw [Go.WideShapes.add_plain] at q0 q1 q2
   match j, hu with
   | 0, hu => simp [clV] at hu; subst hu; exact q0
   | 1, hu => simp [clV] at hu; subst hu; rw [← Nat.add_assoc] at q1; exact q1
   | 2, hu => simp [clV] at hu; subst hu; rw [← Nat.add_assoc] at q2; exact q2
  ·obtain ⟨i, hil, rfl⟩ := List.getElem_of_mem hr
   exact (hlp i _ (List.getElem?_eq_getElem hil)).2.2.2
theorem open_cll {W : World} {v : Value} {d : DataW H} {p : List MemPlace} (hv : ∃ a len cap, v = .slice a len cap) (h : DataW.Trod enc Try.prog W 0 (fun _ => true) true 40 v d p) :
  ∃ l : List Flt.Cl, Cls W (fun i => i < W.heap.size) v l ∧ l.length ≤ 9223372036854775807 ∧ ∀ r ∈ l, Flt.In r := by
 obtain ⟨A, len, cap, rfl⟩ := hv
 obtain ⟨fuel, hf⟩ := h
 obtain ⟨_, _, _, l, _, h1, h2, _, h4, h5⟩ := open_cls (by simpa [Value.cells] using hf)
 exact ⟨l, h1, by omega, h5⟩
end
end Go.Proofs.Ytgpeobmaneponaa
namespace Go.Proofs.Ytgpeobmaneponaa
open Go.ChangeShapes Go.WideShapes Go.ChangeAt Go.RowKit Go.Deep
theorem Upd.updCells : Try.prog.cellsOf 27 = 8 := by kernel_rfl
theorem Upd.metaCells : Try.prog.cellsOf 29 = 8 := by kernel_rfl
structure Upd.In (u : Upd.U) : Prop where
 item : Ver.Bd u.item
 stamp : Ver.BdS u.stamp
 path : u.path.length ≤ 9223372036854775807
 data : u.data.length ≤ 9223372036854775807
structure Upd.InM (m : Upd.M) : Prop where
 item : Ver.Bd m.item
 stamp : Ver.BdS m.stamp
 path : m.path.length ≤ 9223372036854775807
 size : Ver.I64 m.size
section
variable {H : Type} {enc : TypeId × Value → H}
theorem open_up8 {W : World} {n : Nat} {cs : List Value} {x : DataW H × List MemPlace} (hl : cs.length = 8) (h : DataW.trod enc Try.prog W 0 (fun _ => true) true n 27 cs = some x) : ∃ u : Upd.U, cs = upV u ∧ Upd.In u := by
 obtain ⟨xs, n'', _, _, _, hxs, hfs⟩ := DataW.trod_struct Try.underlying27 h
 match cs, hl with
 | [c0, c1, c2, c3, c4, c5, c6, c7], _ =>
  have hl5 : xs.length = 5 := hxs
  have k0 : DataW.trod enc Try.prog W 0 (fun _ => true) true n'' 23 (([c0, c1, c2, c3, c4, c5, c6, c7].drop 0).take (Try.prog.cellsOf 23)) = xs[0]? := hfs 0 _ rfl
  have k1 : DataW.trod enc Try.prog W 0 (fun _ => true) true n'' 25 (([c0, c1, c2, c3, c4, c5, c6, c7].drop 2).take (Try.prog.cellsOf 25)) = xs[1]? := hfs 1 _ rfl
  have k2 : DataW.trod enc Try.prog W 0 (fun _ => true) true n'' 9 (([c0, c1, c2, c3, c4, c5, c6, c7].drop 5).take (Try.prog.cellsOf 9)) = xs[2]? := hfs 2 _ rfl
  have k3 : DataW.trod enc Try.prog W 0 (fun _ => true) true n'' 9 (([c0, c1, c2, c3, c4, c5, c6, c7].drop 6).take (Try.prog.cellsOf 9)) = xs[3]? := hfs 3 _ rfl
  have k4 : DataW.trod enc Try.prog W 0 (fun _ => true) true n'' 4 (([c0, c1, c2, c3, c4, c5, c6, c7].drop 7).take (Try.prog.cellsOf 4)) = xs[4]? := hfs 4 _ rfl
  rw [Ver.verCells, List.getElem?_eq_getElem (by omega)] at k0
  rw [Ver.stpCells, List.getElem?_eq_getElem (by omega)] at k1
  rw [Flt.stringCells, List.getElem?_eq_getElem (by omega)] at k2 k3
  rw [Flt.boolCells, List.getElem?_eq_getElem (by omega)] at k4
  obtain ⟨v, ev, hv⟩ := open_ver2 (cs := [c0, c1]) rfl k0
  obtain ⟨s, es, hs⟩ := open_stp3 (cs := [c2, c3, c4]) rfl k1
  obtain ⟨x2, e2, _, w2⟩ := DataW.trod_string Try.underlying9 k2
  obtain ⟨x3, e3, _, w3⟩ := DataW.trod_string Try.underlying9 k3
  obtain ⟨x4, e4, _⟩ := DataW.trod_bool Try.underlying4 k4
  have ev : c0 = .int .i64 v.by_ ∧ c1 = .int .i64 v.n := by simpa [verV] using ev
  have es : c2 = .int .i64 s.v.by_ ∧ c3 = .int .i64 s.v.n ∧ c4 = .int .i64 s.time := by simpa [stpV] using es
  have e2 : c5 = .string x2 := by simpa using e2
  have e3 : c6 = .string x3 := by simpa using e3
  have e4 : c7 = .bool x4 := by simpa using e4
  unfold maxLen at w2 w3
  exact ⟨⟨v, s, x2.data.toList, x3.data.toList, x4⟩, by unfold upV; simp only; rw [ev.1, ev.2, es.1, es.2.1, es.2.2, e2, e3, e4, mk_of, mk_of], hv, hs, by simpa using w2, by simpa using w3⟩
theorem open_mt8 {W : World} {n : Nat} {cs : List Value} {x : DataW H × List MemPlace} (hl : cs.length = 8) (h : DataW.trod enc Try.prog W 0 (fun _ => true) true n 29 cs = some x) : ∃ u : Upd.M, cs = mtV u ∧ Upd.InM u := by
 obtain ⟨xs, n'', _, _, _, hxs, hfs⟩ := DataW.trod_struct Try.underlying29 h
 match cs, hl with
 | [c0, c1, c2, c3, c4, c5, c6, c7], _ =>
  have hl5 : xs.length = 5 := hxs
  have k0 : DataW.trod enc Try.prog W 0 (fun _ => true) true n'' 23 (([c0, c1, c2, c3, c4, c5, c6, c7].drop 0).take (Try.prog.cellsOf 23)) = xs[0]? := hfs 0 _ rfl
  have k1 : DataW.trod enc Try.prog W 0 (fun _ => true) true n'' 25 (([c0, c1, c2, c3, c4, c5, c6, c7].drop 2).take (Try.prog.cellsOf 25)) = xs[1]? := hfs 1 _ rfl
  have k2 : DataW.trod enc Try.prog W 0 (fun _ => true) true n'' 9 (([c0, c1, c2, c3, c4, c5, c6, c7].drop 5).take (Try.prog.cellsOf 9)) = xs[2]? := hfs 2 _ rfl
  have k3 : DataW.trod enc Try.prog W 0 (fun _ => true) true n'' 3 (([c0, c1, c2, c3, c4, c5, c6, c7].drop 6).take (Try.prog.cellsOf 3)) = xs[3]? := hfs 3 _ rfl
  have k4 : DataW.trod enc Try.prog W 0 (fun _ => true) true n'' 4 (([c0, c1, c2, c3, c4, c5, c6, c7].drop 7).take (Try.prog.cellsOf 4)) = xs[4]? := hfs 4 _ rfl
  rw [Ver.verCells, List.getElem?_eq_getElem (by omega)] at k0
  rw [Ver.stpCells, List.getElem?_eq_getElem (by omega)] at k1
  rw [Flt.stringCells, List.getElem?_eq_getElem (by omega)] at k2
  rw [Ver.intCells, List.getElem?_eq_getElem (by omega)] at k3
  rw [Flt.boolCells, List.getElem?_eq_getElem (by omega)] at k4
  obtain ⟨v, ev, hv⟩ := open_ver2 (cs := [c0, c1]) rfl k0
  obtain ⟨s, es, hs⟩ := open_stp3 (cs := [c2, c3, c4]) rfl k1
  obtain ⟨x2, e2, _, w2⟩ := DataW.trod_string Try.underlying9 k2
  obtain ⟨x3, e3, _, w3⟩ := DataW.trod_int Try.underlying3 k3
  obtain ⟨x4, e4, _⟩ := DataW.trod_bool Try.underlying4 k4
  have ev : c0 = .int .i64 v.by_ ∧ c1 = .int .i64 v.n := by simpa [verV] using ev
  have es : c2 = .int .i64 s.v.by_ ∧ c3 = .int .i64 s.v.n ∧ c4 = .int .i64 s.time := by simpa [stpV] using es
  have e2 : c5 = .string x2 := by simpa using e2
  have e3 : c6 = .int .i64 x3 := by simpa using e3
  have e4 : c7 = .bool x4 := by simpa using e4
  have b3 := bounds_i64 w3
  unfold maxLen at w2
  exact ⟨⟨v, s, x2.data.toList, x3, x4⟩, by unfold mtV; simp only; rw [ev.1, ev.2, es.1, es.2.1, es.2.2, e2, e3, e4, mk_of], hv, hs, by simpa using w2, by unfold Ver.I64; simp only; omega⟩
theorem open_up {W : World} {v : Value} {d : DataW H} {p : List MemPlace} (hv : ∃ cs, v = .agg cs ∧ cs.size = Try.prog.cellsOf 27) (h : DataW.Trod enc Try.prog W 0 (fun _ => true) true 27 v d p) : ∃ x : Upd.U, v = upA x ∧ Upd.In x := by
 obtain ⟨cs, rfl, hcs⟩ := hv
 rw [Upd.updCells] at hcs
 obtain ⟨fuel, hf⟩ := h
 obtain ⟨cl⟩ := cs
 obtain ⟨x, e, hx⟩ := open_up8 (cs := cl) (by simpa using hcs) hf
 exact ⟨x, by rw [e]; rfl, hx⟩
theorem open_mt {W : World} {v : Value} {d : DataW H} {p : List MemPlace} (hv : ∃ cs, v = .agg cs ∧ cs.size = Try.prog.cellsOf 29) (h : DataW.Trod enc Try.prog W 0 (fun _ => true) true 29 v d p) : ∃ x : Upd.M, v = mtA x ∧ Upd.InM x := by
 obtain ⟨cs, rfl, hcs⟩ := hv
 rw [Upd.metaCells] at hcs
 obtain ⟨fuel, hf⟩ := h
 obtain ⟨cl⟩ := cs
 obtain ⟨x, e, hx⟩ := open_mt8 (cs := cl) (by simpa using hcs) hf
 exact ⟨x, by rw [e]; rfl, hx⟩
theorem open_ups {W : World} {v : Value} {d : DataW H} {p : List MemPlace} (hv : ∃ a len cap, v = .slice a len cap) (h : DataW.Trod enc Try.prog W 0 (fun _ => true) true 44 v d p) :
  ∃ l : List Upd.U, Ups W (fun i => i < W.heap.size) v l ∧ l.length ≤ 9223372036854775807 ∧ ∀ x ∈ l, Upd.In x := by
 obtain ⟨A, len, cap, rfl⟩ := hv
 obtain ⟨fuel, hf⟩ := h
 rcases open_slice Try.underlying44 hf with ⟨hcs, _⟩ | ⟨a, len', cap', m, n', D, Pl, hcs, _, hl, hm, hmm, _, hi⟩
 ·simp [Value.cells] at hcs
  obtain ⟨rfl, rfl, rfl⟩ := hcs
  exact ⟨[], Rws.none _ _ _, by simp, fun r hr => by cases hr⟩
 ·simp [Value.cells] at hcs
  obtain ⟨rfl, rfl, rfl⟩ := hcs
  simp at hmm
  unfold maxLen at hm
  obtain ⟨l, hll, hlp⟩ := Ver.list_of (p := fun i x => (∀ j u, (upV x)[j]? = some u → W.cell? (a.add (i * 8 + j)) = some u) ∧ Upd.In x) len (fun i hil => by
   obtain ⟨cs', hc, ht⟩ := hi i (by omega)
   rw [Upd.updCells] at hc
   obtain ⟨_, hcl, hat⟩ := World.cells?_some hc
   obtain ⟨x, e, hx⟩ := open_up8 hcl ht
   refine ⟨x, fun j u hu => ?_, hx⟩
   have hj : j < 8 := by have := (List.getElem?_eq_some_iff.1 hu).1; rwa [up_len] at this
   have := hat j hj
   rw [Go.Deep.add_add] at this
   rw [this]
   subst e
   rw [← hu])
  refine ⟨l, Ver.rows_of (by decide) up_len hll hl (fun i x hx => (hlp i x hx).1), by omega, fun x hx => ?_⟩
  obtain ⟨i, hil, rfl⟩ := List.getElem_of_mem hx
  exact (hlp i _ (List.getElem?_eq_getElem hil)).2
end
end Go.Proofs.Ytgpeobmaneponaa
namespace Go.Proofs.Ytgpeobmaneponaa
open Go.RowKit
def Flt.light (f : List Flt.Cl) : Prop := (∀ c ∈ f, c.pre.length ≤ 100) ∧ f.length ≤ 24
instance (f : List Flt.Cl) : Decidable (Flt.light f) := inferInstanceAs (Decidable (_ ∧ _))
theorem light_any {w : World} {F : Nat → Prop} {v : Value} {f : List Flt.Cl} (h : Cls w F v f) (hl : f.length ≤ 9223372036854775807) (hs : ∀ c ∈ f, c.pre.length ≤ 9223372036854775807) :
  Calls Try.prog 15 #[v] w fun e w' => e = .returned (.bool (decide (Flt.light f))) ∧ Below w.heap.size w w' := by
 obtain ⟨A, cap, rfl, hcap⟩ := h.parts
 have H := Lib.hid h
 have HS := Lib.hid hs
 have hl' : (f.length : Int) ≤ 9223372036854775807 := by omega
 clear h hs
 go_enter Try.func15, Try.ntmps15
 go_wp2_with fail
 go_loopw [3] (fun i wr => ∃ n : Nat, n ≤ f.length ∧ i = .int .i64 (n : Int) ∧ Hid (∀ c ∈ f.take n, c.pre.length ≤ 100) ∧ Below w.heap.size w wr) (fun i _ => f.length - (intOf i).toNat)
 case atStart => exact ⟨0, Nat.zero_le _, rfl, Lib.hid (by simp), Below.refl _ _⟩
 case round =>
  obtain ⟨n, hn, rfl, hall, hbel⟩ := hrel
  by_cases hlt : n < f.length
  ·obtain ⟨b, o, cap', e, -, -, hb⟩ := H.out.block (by omega)
   injection e with e1 e2 e3
   subst e1 e3
   clear e2
   obtain ⟨x, hx⟩ : ∃ x, f[n]? = some x := ⟨_, List.getElem?_eq_getElem hlt⟩
   have hpx := HS.out x (List.mem_of_getElem? hx)
   have hn0 : (0 : Int) ≤ (n : Int) := by omega
   have hn1 : (n : Int) < (f.length : Int) := by omega
   obtain ⟨c0, c1, c2⟩ := Cls.at (H.out.below hbel) hx
   have lx := mk_len x.pre
   have Hbel := Lib.hid hbel
   clear hbel c1 c2
   by_cases hx1 : x.pre.length ≤ 100
   ·have hnext : Hid (∀ c ∈ f.take (n + 1), c.pre.length ≤ 100) := Lib.hid (by
     intro c hc
     obtain ⟨h1, e1⟩ := List.getElem?_eq_some_iff.1 hx
     rw [List.take_succ_eq_append_getElem h1, e1] at hc
     rcases List.mem_append.1 hc with hc | hc
     ·exact hall.out c hc
     ·rw [List.mem_singleton.1 hc]; exact hx1)
    have g1 : ¬ (100 : Int) < ((mk x.pre).size : Int) := by omega
    have g2 : ((mk x.pre).size : Int) ≤ 9223372036854775807 := by omega
    clear hx hall lx hx1 hpx
    generalize mk x.pre = xs at *
    go_wp2_with fail
    exact ⟨⟨n + 1, by omega, by go_num, hnext, Hbel.out⟩, by show f.length - ((n : Int) + 1).toNat < f.length - (n : Int).toNat; omega⟩
   ·have hno : Hid (decide (Flt.light f) = false) := Lib.hid (decide_eq_false (fun h => hx1 (h.1 x (List.mem_of_getElem? hx))))
    have g1 : (100 : Int) < ((mk x.pre).size : Int) := by omega
    have g2 : ((mk x.pre).size : Int) ≤ 9223372036854775807 := by omega
    clear hx hall lx hx1 hpx
    generalize mk x.pre = xs at *
    go_wp2_with fail
    go_ret
    exact ⟨by rw [hno.out]; rfl, Hbel.out⟩
  ·obtain rfl : n = f.length := by omega
   have Hbel := Lib.hid hbel
   clear hbel
   by_cases h24 : f.length ≤ 24
   ·have hyes : Hid (decide (Flt.light f) = true) := Lib.hid (decide_eq_true ⟨by have := hall.out; rwa [List.take_length] at this, h24⟩)
    have g1 : decide ((f.length : Int) ≤ 24) = true := decide_eq_true (by omega)
    clear hall
    go_wp2_with fail
    go_ret
    exact ⟨by rw [hyes.out]; rfl, Hbel.out⟩
   ·have hno : Hid (decide (Flt.light f) = false) := Lib.hid (decide_eq_false (fun h => h24 h.2))
    have g1 : decide ((f.length : Int) ≤ 24) = false := decide_eq_false (by omega)
    clear hall
    go_wp2_with fail
    go_ret
    exact ⟨by rw [hno.out]; rfl, Hbel.out⟩
end Go.Proofs.Ytgpeobmaneponaa
namespace Go.Proofs.Ytgpeobmaneponaa
open Go.RowKit Go.Sort
theorem Upd.light_bd {u : Upd.U} (h : Upd.In u) (l : Upd.light u) : Upd.Bd u := ⟨h.item, h.stamp, by have := l.1; omega, by have := l.2; omega⟩
theorem light_flt {f : List Flt.Cl} (h : Flt.light f) (bf : ∀ c ∈ f, c.pre.length ≤ 9223372036854775807 ∧ Bd (Flt.rg c)) : f.length ≤ 24 ∧ (∀ c ∈ f, Flt.Bd c) ∧ ∀ c ∈ f, c.pre.length ≤ 100000 :=
 ⟨h.2, fun c hc => ⟨by have := h.1 c hc; omega, (bf c hc).2⟩, fun c hc => by have := h.1 c hc; omega⟩
theorem umatches_walk (O : UpdateOk) (Z : FilterOk) {w : World} {v : Value} {f : List Flt.Cl} {u : Upd.U} (hf : Cls w (fun i => i < w.heap.size) v f) (lf : f.length ≤ 9223372036854775807) (bf : ∀ c ∈ f, c.pre.length ≤ 9223372036854775807 ∧ Bd (Flt.rg c)) (hu : Upd.In u) :
  Calls Try.prog 4 #[v, upA u] w fun e w' => e = .returned (.bool true) ∧ Below w.heap.size w w' := by
 have AW := Lib.hid (fun W => upd_awake O Z W)
 obtain ⟨A, cap, rfl, -⟩ := hf.parts
 obtain ⟨W0, hW0⟩ : ∃ W0, W0 = w.alloc (.cells #[.int .i64 u.item.by_, .int .i64 u.item.n, .int .i64 u.stamp.v.by_, .int .i64 u.stamp.v.n, .int .i64 u.stamp.time, .string (mk u.path), .string (mk u.data), .bool u.dead] 27) := ⟨_, rfl⟩
 have hb0 : Below w.heap.size w W0 := by rw [hW0]; exact (Below.refl _ _).alloc (by simp) _
 have r0 : Row W0 (w.heap.size) 27 #[.int .i64 u.item.by_, .int .i64 u.item.n, .int .i64 u.stamp.v.by_, .int .i64 u.stamp.v.n, .int .i64 u.stamp.time, .string (mk u.path), .string (mk u.data), .bool u.dead] := by
  rw [hW0]
  have h := (Row.made w 27 #[.int .i64 u.item.by_, .int .i64 u.item.n, .int .i64 u.stamp.v.by_, .int .i64 u.stamp.v.n, .int .i64 u.stamp.time, .string (mk u.path), .string (mk u.data), .bool u.dead])
  simpa only [World.size_alloc] using h
 have HB0 := Lib.hid hb0
 have B0 : Hid (Below W0.heap.size W0 W0) := Lib.hid (Below.refl _ _)
 have LI := Lib.hid (light_any (Rws.below hf hb0) lf (fun c hc => (bf c hc).1))
 have LA := Lib.hid (fun (W : World) (h : Below W0.heap.size W0 W) => (up_lies_row (cs := upV u) (r0.below h r0.inHeap) rfl : Lies 27 W (w.heap.size) 0 (upV u)))
 by_cases hlf : Flt.light f
 ·rw [decide_eq_true hlf] at LI
  obtain ⟨hl24, hbd, hpl⟩ := light_flt hlf bf
  by_cases lu : Upd.light u
  ·have LGu : Hid (∀ W, Calls Try.prog 7 #[.agg (upV u).toArray] W fun e w' => e = .returned (.bool true) ∧ Below W.heap.size W w') := Lib.hid (fun W => by have := ulight_any u W; rwa [decide_eq_true lu] at this)
   have hub := Upd.light_bd hu lu
   have RM := Lib.hid (fun (W : World) (h : Below W0.heap.size W0 W) => (show Calls Try.prog 16 #[.slice A f.length cap, .agg (upV u).toArray] W fun e w' => e = .returned (.bool (Upd.hit f u)) ∧ Below W.heap.size W w' from ref_umatch u (Rws.below (Rws.below hf hb0) h) (by omega) hpl hu.path))
   have MH := Lib.hid (fun (W : World) (h : Below W0.heap.size W0 W) => (show Calls Try.prog 17 #[.slice A f.length cap, .agg (upV u).toArray] W fun e w' => e = .returned (.bool (Upd.hit f u)) ∧ Below W.heap.size W w' from O.hit u (Rws.below (Rws.below hf hb0) h) (by omega) hbd hub))
   have MM := Lib.hid (fun (W : World) (h : Below W0.heap.size W0 W) => (show Calls Try.prog 18 #[.slice A f.length cap, .agg (mtV (Upd.meta_ u)).toArray] W fun e w' => e = .returned (.bool (Upd.hit f u)) ∧ Below W.heap.size W w' from O.hitM (Upd.meta_ u) (Rws.below (Rws.below hf hb0) h) (by omega) hbd (Upd.bd_meta hub)))
   have ME := Lib.hid (fun W => (show Calls Try.prog 9 #[.agg (upV u).toArray] W fun e w' => e = .returned (.agg (mtV (Upd.meta_ u)).toArray) ∧ Below W.heap.size W w' from O.toMeta (w := W) u hub))
   generalize Upd.hit f u = q at *
   generalize f.length = fl at *
   generalize hcs : upV u = cu at *
   generalize mtV (Upd.meta_ u) = cm at *
   clear hf bf lf hu hub hlf lu hl24 hbd hpl hcs
   cases q
   all_goals
    go_enter Try.func4, Try.ntmps4
    go_wp2_with fail
    first | rw [← hW0] | skip
    clear hW0 r0 hb0
    have LAA := LA
    have LA := Lib.hid (LAA.out W0 B0.out)
    go_wp2_with (refine wpList_mload (by rfl) _ (by rfl) (by rfl) LA.out ?_)
    clear LA
    refine (LI.out).mono ?_
    rintro e w1 ⟨rfl, b1⟩
    have B1 := Lib.hid (B0.out.trans (b1.mono B0.out.size))
    have LA := Lib.hid (LAA.out w1 B1.out)
    clear b1
    go_wp2_with (refine wpList_mload (by rfl) _ (by rfl) (by rfl) LA.out ?_)
    clear LA
    refine (LGu.out _).mono ?_
    rintro e w2 ⟨rfl, b2⟩
    have B2 := Lib.hid (B1.out.trans (b2.mono B1.out.size))
    have LA := Lib.hid (LAA.out w2 B2.out)
    clear b2
    go_wp2_with (refine wpList_mload (by rfl) _ (by rfl) (by rfl) LA.out ?_)
    clear LA
    refine (RM.out _ B2.out).mono ?_
    rintro e w3 ⟨rfl, b3⟩
    have B3 := Lib.hid (B2.out.trans (b3.mono B2.out.size))
    have LA := Lib.hid (LAA.out w3 B3.out)
    clear b3
    go_wp2_with (refine wpList_mload (by rfl) _ (by rfl) (by rfl) LA.out ?_)
    clear LA
    refine (AW.out _).mono ?_
    rintro e w4 ⟨rfl, b4⟩
    have B4 := Lib.hid (B3.out.trans (b4.mono B3.out.size))
    have LA := Lib.hid (LAA.out w4 B4.out)
    clear b4
    go_wp2_with (refine wpList_mload (by rfl) _ (by rfl) (by rfl) LA.out ?_)
    clear LA
    refine (MH.out _ B4.out).mono ?_
    rintro e w5 ⟨rfl, b5⟩
    have B5 := Lib.hid (B4.out.trans (b5.mono B4.out.size))
    have LA := Lib.hid (LAA.out w5 B5.out)
    clear b5
    go_wp2_with (refine wpList_mload (by rfl) _ (by rfl) (by rfl) LA.out ?_)
    clear LA
    refine (ME.out _).mono ?_
    rintro e w6 ⟨rfl, b6⟩
    have B6 := Lib.hid (B5.out.trans (b6.mono B5.out.size))
    have LA := Lib.hid (LAA.out w6 B6.out)
    clear b6
    go_wp2_with (refine wpList_mload (by rfl) _ (by rfl) (by rfl) LA.out ?_)
    clear LA
    refine (MM.out _ B6.out).mono ?_
    rintro e w7 ⟨rfl, b7⟩
    have B7 := Lib.hid (B6.out.trans (b7.mono B6.out.size))
    have LA := Lib.hid (LAA.out w7 B7.out)
    clear b7
    go_wp2_with fail
    go_ret
    exact ⟨rfl, HB0.out.trans (B7.out.mono HB0.out.size)⟩
  ·have LGu : Hid (∀ W, Calls Try.prog 7 #[.agg (upV u).toArray] W fun e w' => e = .returned (.bool false) ∧ Below W.heap.size W w') := Lib.hid (fun W => by have := ulight_any u W; rwa [decide_eq_false lu] at this)
   generalize f.length = fl at *
   generalize hcs : upV u = cu at *
   clear hf bf lf hu hlf lu hl24 hbd hpl hcs
   go_enter Try.func4, Try.ntmps4
   go_wp2_with fail
   first | rw [← hW0] | skip
   clear hW0 r0 hb0
   have LAA := LA
   have LA := Lib.hid (LAA.out W0 B0.out)
   go_wp2_with (refine wpList_mload (by rfl) _ (by rfl) (by rfl) LA.out ?_)
   clear LA
   refine (LI.out).mono ?_
   rintro e w1 ⟨rfl, b1⟩
   have B1 := Lib.hid (B0.out.trans (b1.mono B0.out.size))
   have LA := Lib.hid (LAA.out w1 B1.out)
   clear b1
   go_wp2_with (refine wpList_mload (by rfl) _ (by rfl) (by rfl) LA.out ?_)
   clear LA
   refine (LGu.out _).mono ?_
   rintro e w2 ⟨rfl, b2⟩
   have B2 := Lib.hid (B1.out.trans (b2.mono B1.out.size))
   have LA := Lib.hid (LAA.out w2 B2.out)
   clear b2
   go_wp2_with (refine wpList_mload (by rfl) _ (by rfl) (by rfl) LA.out ?_)
   clear LA
   refine (AW.out _).mono ?_
   rintro e w3 ⟨rfl, b3⟩
   have B3 := Lib.hid (B2.out.trans (b3.mono B2.out.size))
   have LA := Lib.hid (LAA.out w3 B3.out)
   clear b3
   go_wp2_with fail
   go_ret
   exact ⟨rfl, HB0.out.trans (B3.out.mono HB0.out.size)⟩
 ·rw [decide_eq_false hlf] at LI
  generalize f.length = fl at *
  clear hf bf lf hu hlf
  go_enter Try.func4, Try.ntmps4
  go_wp2_with fail
  first | rw [← hW0] | skip
  clear hW0 r0 hb0
  go_wp2_with fail
  refine (LI.out).mono ?_
  rintro e w1 ⟨rfl, b1⟩
  have B1 := Lib.hid (B0.out.trans (b1.mono B0.out.size))
  clear b1
  go_wp2_with fail
  refine (AW.out _).mono ?_
  rintro e w2 ⟨rfl, b2⟩
  have B2 := Lib.hid (B1.out.trans (b2.mono B1.out.size))
  clear b2
  go_wp2_with fail
  go_ret
  exact ⟨rfl, HB0.out.trans (B2.out.mono HB0.out.size)⟩
end Go.Proofs.Ytgpeobmaneponaa
