import Derived.Test.YtpafpegcodempaaCom14
import Derived.Test.YtpafpegcodempaaCom6
import Derived.Test.YtpafpegcodempaaCom4
import Derived.Test.YtpafpegcodempaaCom5
import Derived.Shelf.Spec.SlicesGrow
import Derived.Shelf.SlicesQ.IndexFunc
import Derived.Deep.Fields
set_option maxRecDepth 100000
set_option linter.all false
namespace Go.Proofs.Ytpafpegcodempaa
open Go.RowKit Go.Sort
theorem iset_of (Z : VersOk) {w : World} {F : Nat → Prop} {v : Value} {l : List Ver.V} (h : Vrs w F v l) (hl : l.length ≤ 1000000) :
  Calls Try.prog 43 #[v] w fun e w' => ∃ v', e = .returned v' ∧ Vrs w' (NewIn w w') v' (Ver.sort l) ∧ Below w.heap.size w w' := by
 have SO := Lib.hid (Z.sort h hl)
 clear h
 go_enter Try.func43, Try.ntmps43
 go_wp2_with fail
 refine (SO.out).mono ?_
 rintro e w1 ⟨v1, rfl, h1, h2⟩
 have H1 := Lib.hid h1
 have H2 := Lib.hid h2
 clear h1 h2
 go_wp2_with fail
 go_ret
 exact ⟨_, rfl, H1.out, H2.out⟩
def Apart (u v : Value) : Prop := ∀ g, u.ownBlock = some g → v.ownBlock ≠ some g
theorem Apart.none (v : Value) : Apart (.slice none 0 0) v := fun g hg => by cases hg
theorem Apart.symm {u v : Value} (h : Apart u v) : Apart v u := fun g hg k => h g k hg
open Go.RowKit Go.Shelf Go.Lib
theorem iset_of_vers (Z : VersOk) : IsetOk where
 ofl := fun h hl => iset_of Z h hl
theorem iset_ok : IsetOk := iset_of_vers vers_ok
open Go.ChangeShapes Go.WideShapes Go.ChangeAt Go.RowKit Go.Deep
theorem Ver.intCells : Try.prog.cellsOf 3 = 1 := by kernel_rfl
theorem Ver.verCells : Try.prog.cellsOf 43 = 2 := by kernel_rfl
theorem Ver.in_heap {W : World} {a : Addr} {v : Value} (h : W.cell? a = some v) : a.block < W.heap.size ∧ a.spot = none :=
 ⟨World.block_lt_of_cell? W a h, World.cell?_spot h⟩
theorem Ver.list_of {α : Type} {p : Nat → α → Prop} : ∀ n, (∀ i, i < n → ∃ x, p i x) → ∃ l : List α, l.length = n ∧ ∀ i x, l[i]? = some x → p i x
 | 0, _ => ⟨[], rfl, fun i x h => by simp at h⟩
 | n + 1, h => by
  obtain ⟨l, hl, hp⟩ := Ver.list_of n (fun i hi => h i (by omega))
  obtain ⟨x, hx⟩ := h n (by omega)
  refine ⟨l ++ [x], by simp [hl], fun i y hy => ?_⟩
  by_cases hi : i < n
  ·rw [List.getElem?_append_left (by omega)] at hy
   exact hp i y hy
  ·have hin : i < (l ++ [x]).length := (List.getElem?_eq_some_iff.1 hy).1
   have : i = n := by simp [hl] at hin; omega
   subst this
   rw [List.getElem?_append_right (by omega), hl, Nat.sub_self] at hy
   simp at hy
   rw [← hy]; exact hx
theorem Ver.rows_of {α : Type} {k : Nat} {f : α → List Value} {W : World} {a : Addr} {len cap : Nat} {l : List α} (hk : 0 < k) (hf : ∀ x, (f x).length = k) (hll : l.length = len) (hl : len ≤ cap)
  (h : ∀ i x, l[i]? = some x → ∀ j u, (f x)[j]? = some u → W.cell? (a.add (i * k + j)) = some u) : Rws k f W (fun i => i < W.heap.size) (.slice (some a) len cap) l := by
 refine ⟨some a, cap, by rw [hll], by rw [hll]; exact hl, fun hpos => ?_⟩
 obtain ⟨x0, hx0⟩ : ∃ x, l[0]? = some x := ⟨_, List.getElem?_eq_getElem hpos⟩
 obtain ⟨u0, hu0⟩ : ∃ u, (f x0)[0]? = some u := ⟨_, List.getElem?_eq_getElem (by rw [hf]; exact hk)⟩
 have hb := Ver.in_heap (h 0 x0 hx0 0 u0 hu0)
 obtain ⟨b, off, spot⟩ := a
 have hs : spot = none := by simpa [Addr.add] using hb.2
 subst hs
 have hb1 : b < W.heap.size := by simpa [Addr.add] using hb.1
 refine ⟨b, off, rfl, hb1, hb1, fun i x hx j u hu => ?_⟩
 have := h i x hx j u hu
 rwa [Go.WideShapes.add_plain, ← Nat.add_assoc] at this
section
variable {H : Type} {enc : TypeId × Value → H}
theorem open_ver2 {W : World} {n : Nat} {cs : List Value} {x : DataW H × List MemPlace} (hl : cs.length = 2) (h : DataW.trod enc Try.prog W 0 (fun _ => true) true n 43 cs = some x) : ∃ v : Ver.V, cs = verV v ∧ Ver.Bd v := by
 obtain ⟨xs, n'', _, _, _, hxs, hfs⟩ := DataW.trod_struct Try.underlying43 h
 match cs, hl with
 | [c0, c1], _ =>
  have hl2 : xs.length = 2 := hxs
  have k0 : DataW.trod enc Try.prog W 0 (fun _ => true) true n'' 3 (([c0, c1].drop 0).take (Try.prog.cellsOf 3)) = xs[0]? := hfs 0 _ rfl
  have k1 : DataW.trod enc Try.prog W 0 (fun _ => true) true n'' 3 (([c0, c1].drop 1).take (Try.prog.cellsOf 3)) = xs[1]? := hfs 1 _ rfl
  rw [Ver.intCells, List.getElem?_eq_getElem (by omega)] at k0 k1
  obtain ⟨x0, e0, _, w0⟩ := DataW.trod_int Try.underlying3 k0
  obtain ⟨x1, e1, _, w1⟩ := DataW.trod_int Try.underlying3 k1
  have e0 : c0 = .int .i64 x0 := by simpa using e0
  have e1 : c1 = .int .i64 x1 := by simpa using e1
  have b0 := bounds_i64 w0
  have b1 := bounds_i64 w1
  exact ⟨⟨x0, x1⟩, by rw [e0, e1]; rfl, by unfold Ver.Bd Ver.I64; simp only; omega⟩
theorem open_vers {W : World} {v : Value} {d : DataW H} {p : List MemPlace} (hv : ∃ a len cap, v = .slice a len cap) (h : DataW.Trod enc Try.prog W 0 (fun _ => true) true 24 v d p) :
  ∃ l : List Ver.V, Vrs W (fun i => i < W.heap.size) v l ∧ l.length ≤ 9223372036854775807 ∧ ∀ x ∈ l, Ver.Bd x := by
 obtain ⟨A, len, cap, rfl⟩ := hv
 obtain ⟨fuel, hf⟩ := h
 rcases open_slice Try.underlying24 hf with ⟨hcs, _⟩ | ⟨a, len', cap', m, n', D, Pl, hcs, _, hl, hm, hmm, _, hi⟩
 ·simp [Value.cells] at hcs
  obtain ⟨rfl, rfl, rfl⟩ := hcs
  exact ⟨[], Rws.none _ _ _, by simp, fun r hr => by cases hr⟩
 ·simp [Value.cells] at hcs
  obtain ⟨rfl, rfl, rfl⟩ := hcs
  simp at hmm
  unfold maxLen at hm
  obtain ⟨l, hll, hlp⟩ := Ver.list_of (p := fun i x => (∀ j u, (verV x)[j]? = some u → W.cell? (a.add (i * 2 + j)) = some u) ∧ Ver.Bd x) len (fun i hil => by
   obtain ⟨cs', hc, ht⟩ := hi i (by omega)
   rw [Ver.verCells] at hc
   obtain ⟨_, hcl, hat⟩ := World.cells?_some hc
   obtain ⟨x, e, hx⟩ := open_ver2 hcl ht
   refine ⟨x, fun j u hu => ?_, hx⟩
   have hj : j < 2 := by have := (List.getElem?_eq_some_iff.1 hu).1; rwa [ver_len] at this
   have := hat j hj
   rw [Go.Deep.add_add] at this
   rw [this]
   subst e
   rw [← hu])
  refine ⟨l, Ver.rows_of (by decide) ver_len hll hl (fun i x hx => (hlp i x hx).1), by omega, fun x hx => ?_⟩
  obtain ⟨i, hil, rfl⟩ := List.getElem_of_mem hx
  exact (hlp i _ (List.getElem?_eq_getElem hil)).2
end
open Go.ChangeShapes Go.WideShapes Go.ChangeAt Go.RowKit Go.Deep
theorem Vec.vecCells : Try.prog.cellsOf 23 = 65 := by kernel_rfl
section
variable {H : Type} {enc : TypeId × Value → H}
theorem open_vec65 {W : World} {n : Nat} {cs : List Value} {x : DataW H × List MemPlace} (hl : cs.length = 65) (h : DataW.trod enc Try.prog W 0 (fun _ => true) true n 23 cs = some x) : ∃ v : List Int, cs = vecL v ∧ v.length = 65 ∧ ∀ n ∈ v, Ver.I64 n := by
 obtain ⟨xs, m, _, _, _, hxl, hel⟩ := DataW.trod_array Try.underlying23 h
 have hi : ∀ i, i < 65 → ∃ n : Int, cs[i]? = some (.int .i64 n) ∧ Ver.I64 n := by
  intro i hi
  have k := hel i hi
  rw [Ver.intCells, Nat.mul_one, List.getElem?_eq_getElem (by omega)] at k
  have e : (cs.drop i).take 1 = [cs[i]'(by omega)] := by
   rw [List.take_one, List.head?_drop, List.getElem?_eq_getElem (by omega)]; rfl
  rw [e] at k
  obtain ⟨x0, e0, _, w0⟩ := DataW.trod_int Try.underlying3 k
  have b0 := bounds_i64 w0
  refine ⟨x0, ?_, by unfold Ver.I64; omega⟩
  rw [List.getElem?_eq_getElem (by omega)]
  congr 1
  simpa using e0
 obtain ⟨l, hll, hlp⟩ := Ver.list_of (p := fun i (n : Int) => cs[i]? = some (.int .i64 n) ∧ Ver.I64 n) 65 hi
 refine ⟨l, ?_, hll, fun n hn => by
  obtain ⟨i, hi, rfl⟩ := List.getElem_of_mem hn
  exact (hlp i _ (List.getElem?_eq_getElem hi)).2⟩
 apply List.ext_getElem?
 intro i
 by_cases hlt : i < 65
 ·obtain ⟨y, hy⟩ : ∃ y, l[i]? = some y := ⟨_, List.getElem?_eq_getElem (by omega)⟩
  rw [(hlp i y hy).1]
  unfold vecL
  rw [List.getElem?_map, hy]; rfl
 ·rw [List.getElem?_eq_none (by omega), List.getElem?_eq_none (by rw [vecL_len]; omega)]
theorem open_vec {W : World} {base : Nat} {v : Value} {d : DataW H} {p : List MemPlace} (hv : Value.okWide Try.prog W .any base 23 v) (h : DataW.Trod enc Try.prog W 0 (fun _ => true) true 23 v d p) : ∃ x : List Int, v = vecA x ∧ x.length = 65 ∧ ∀ n ∈ x, Ver.I64 n := by
 have hu := Try.underlying23
 simp only [Value.okWide, hu] at hv
 obtain ⟨cs, rfl, hcs, _⟩ := hv
 rw [Vec.vecCells] at hcs
 obtain ⟨fuel, hf⟩ := h
 obtain ⟨cl⟩ := cs
 obtain ⟨x, e, hx⟩ := open_vec65 (cs := cl) (by simpa using hcs) hf
 exact ⟨x, by rw [e]; rfl, hx⟩
end
end Go.Proofs.Ytpafpegcodempaa
