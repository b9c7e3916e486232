import Derived.Test.YtkcgmnhjofoeiaaGreatCom8
import Derived.Test.YtkcgmnhjofoeiaaGreatCom20
import Derived.Test.YtkcgmnhjofoeiaaGreatCom15
import Derived.Test.YtkcgmnhjofoeiaaGreatCom5
import Derived.Test.YtkcgmnhjofoeiaaGreatCom9
set_option maxRecDepth 100000
set_option linter.all false
set_option maxHeartbeats 12800000
namespace Go.Proofs.YtkcgmnhjofoeiaaGreat
open Go.ChangeShapes Go.WideShapes Go.ChangeAt Go.RowKit Go.Deep
theorem Know.clsCells : Tryz.prog.cellsOf 26 = 1 := by kernel_rfl
theorem Know.vrsCells : Tryz.prog.cellsOf 29 = 1 := by kernel_rfl
theorem Know.verCells : Tryz.prog.cellsOf 33 = 2 := by kernel_rfl
theorem Know.vecCells : Tryz.prog.cellsOf 28 = 65 := by kernel_rfl
theorem Know.frCells : Tryz.prog.cellsOf 31 = 67 := by kernel_rfl
theorem Know.itCells : Tryz.prog.cellsOf 45 = 67 := by kernel_rfl
theorem Know.frsCells : Tryz.prog.cellsOf 22 = 1 := by kernel_rfl
theorem Know.itsCells : Tryz.prog.cellsOf 23 = 1 := by kernel_rfl
theorem Know.knCells : Tryz.prog.cellsOf 25 = 2 := by kernel_rfl
theorem Know.askCells : Tryz.prog.cellsOf 35 = 5 := by kernel_rfl
theorem Know.fourCells : Tryz.prog.cellsOf 37 = 79 := by kernel_rfl
theorem one_cell {l : List Value} (h : l.length = 1) : ∃ c, l = [c] := by
 match l, h with
 | [c], _ => exact ⟨c, rfl⟩
theorem cut_cells (cs : List Value) (a b c : Nat) (h : a + b = c) : (cs.drop a).take b ++ cs.drop c = cs.drop a := by
 rw [← h, ← List.drop_drop, List.take_append_drop]
theorem cut_len {cs : List Value} {n a b : Nat} (h : cs.length = n) (hab : a + b ≤ n) : ((cs.drop a).take b).length = b := by
 rw [List.length_take, List.length_drop]; omega
theorem cut_last {cs : List Value} {n a b : Nat} (h : cs.length = n) (hab : a + b = n) : (cs.drop a).take b = cs.drop a :=
 List.take_of_length_le (by rw [List.length_drop]; omega)
theorem Know.rows_in {α : Type} {k : Nat} {f : α → List Value} {W : World} {a : Addr} {len cap : Nat} {l : List α} (hk : 0 < k) (hf : ∀ x ∈ l, (f x).length = k) (hll : l.length = len) (hl : len ≤ cap)
  (h : ∀ i x, l[i]? = some x → ∀ j u, (f x)[j]? = some u → W.cell? (a.add (i * k + j)) = some u) : Rws k f W (fun i => i < W.heap.size) (.slice (some a) len cap) l := by
 refine ⟨some a, cap, by rw [hll], by rw [hll]; exact hl, fun hpos => ?_⟩
 obtain ⟨x0, hx0⟩ : ∃ x, l[0]? = some x := ⟨_, List.getElem?_eq_getElem hpos⟩
 obtain ⟨u0, hu0⟩ : ∃ u, (f x0)[0]? = some u := ⟨_, List.getElem?_eq_getElem (by rw [hf x0 (List.mem_of_getElem? hx0)]; exact hk)⟩
 have hb := Ver.in_heap (h 0 x0 hx0 0 u0 hu0)
 obtain ⟨b, off, spot⟩ := a
 have hs : spot = none := by simpa [Addr.add] using hb.2
 subst hs
 have hb1 : b < W.heap.size := by simpa [Addr.add] using hb.1
 refine ⟨b, off, rfl, hb1, hb1, fun i x hx j u hu => ?_⟩
 have := h i x hx j u hu
 rwa [Go.WideShapes.add_plain, ← Nat.add_assoc] at this
section
variable {H : Type} {enc : TypeId × Value → H}
theorem open_rows {α : Type} {W : World} {ts te : TypeId} {k : Nat} {g : α → List Value} {Q : α → Prop} (hu : Tryz.prog.underlying ts = some (.slice te)) (hc : Tryz.prog.cellsOf te = k) (hk : 0 < k) (hg : ∀ a, Q a → (g a).length = k)
  (hE : ∀ {n : Nat} {cs : List Value} {x : DataW H × List MemPlace}, cs.length = k → DataW.trod enc Tryz.prog W 0 (fun _ => true) true n te cs = some x → ∃ a, cs = g a ∧ Q a)
  {c : Value} {n : Nat} {d : DataW H × List MemPlace} (h : DataW.trod enc Tryz.prog W 0 (fun _ => true) true n ts [c] = some d) :
  ∃ l : List α, Rws k g W (fun i => i < W.heap.size) c l ∧ l.length ≤ 9223372036854775807 ∧ ∀ x ∈ l, Q x := by
 obtain ⟨d, pl⟩ := d
 rcases open_slice hu h with ⟨hcs, _⟩ | ⟨a, len', cap', m, n', D, Pl, hcs, _, hl, hm, hmm, _, hi⟩
 ·simp at hcs
  subst hcs
  exact ⟨[], Rws.none _ _ _, by simp, fun r hr => by cases hr⟩
 ·simp at hcs
  subst hcs
  simp at hmm
  unfold maxLen at hm
  obtain ⟨l, hll, hlp⟩ := Ver.list_of (p := fun i x => (∀ j u, (g x)[j]? = some u → W.cell? (a.add (i * k + j)) = some u) ∧ Q x) len' (fun i hil => by
   obtain ⟨cs', hc', ht⟩ := hi i (by omega)
   rw [hc] at hc'
   obtain ⟨_, hcl, hat⟩ := World.cells?_some hc'
   obtain ⟨x, e, hx⟩ := hE hcl ht
   refine ⟨x, fun j u hu => ?_, hx⟩
   have hj : j < k := by have := (List.getElem?_eq_some_iff.1 hu).1; rwa [hg x hx] at this
   have := hat j hj
   rw [Go.Deep.add_add] at this
   rw [this]
   subst e
   rw [← hu])
  have hQ : ∀ x ∈ l, Q x := fun x hx => by
   obtain ⟨i, hil, rfl⟩ := List.getElem_of_mem hx
   exact (hlp i _ (List.getElem?_eq_getElem hil)).2
  exact ⟨l, Know.rows_in hk (fun x hx => hg x (hQ x hx)) hll hl (fun i x hx => (hlp i x hx).1), by omega, hQ⟩
structure FrIn (W : World) (r : RFr) : Prop where
 rin : r.In W (fun i => i < W.heap.size)
 fl : r.x.f.length ≤ 9223372036854775807
 fi : ∀ c ∈ r.x.f, Flt.In c
 nl : r.x.no.length ≤ 9223372036854775807
 vb : ∀ n ∈ r.x.v, Ver.I64 n
structure ItIn (i : Know.It) : Prop where
 len : i.v.length = 65
 vb : ∀ n ∈ i.v, Ver.I64 n
 ib : Ver.Bd i.item
theorem open_cls1 {W : World} {c : Value} {n : Nat} {d : DataW H × List MemPlace} (h : DataW.trod enc Tryz.prog W 0 (fun _ => true) true n 26 [c] = some d) :
  ∃ l : List Flt.Cl, Cls W (fun i => i < W.heap.size) c l ∧ l.length ≤ 9223372036854775807 ∧ ∀ r ∈ l, Flt.In r := by
 obtain ⟨A, len, cap, l, e, h1, h2, h3, h4, h5⟩ := open_cls h
 exact ⟨l, h1, by omega, h5⟩
theorem open_frag {W : World} {n : Nat} {cs : List Value} {x : DataW H × List MemPlace} (hl : cs.length = 67) (h : DataW.trod enc Tryz.prog W 0 (fun _ => true) true n 31 cs = some x) : ∃ r : RFr, cs = rfV r ∧ FrIn W r := by
 obtain ⟨xs, n'', _, _, _, hxs, hfs⟩ := DataW.trod_struct Tryz.underlying31 h
 have hl3 : xs.length = 3 := hxs
 have k0 : DataW.trod enc Tryz.prog W 0 (fun _ => true) true n'' 26 ((cs.drop 0).take (Tryz.prog.cellsOf 26)) = xs[0]? := hfs 0 _ rfl
 have k1 : DataW.trod enc Tryz.prog W 0 (fun _ => true) true n'' 28 ((cs.drop 1).take (Tryz.prog.cellsOf 28)) = xs[1]? := hfs 1 _ rfl
 have k2 : DataW.trod enc Tryz.prog W 0 (fun _ => true) true n'' 29 ((cs.drop 66).take (Tryz.prog.cellsOf 29)) = xs[2]? := hfs 2 _ rfl
 rw [Know.clsCells, List.getElem?_eq_getElem (by omega)] at k0
 rw [Know.vecCells, List.getElem?_eq_getElem (by omega)] at k1
 rw [Know.vrsCells, List.getElem?_eq_getElem (by omega)] at k2
 have s0 := cut_cells cs 0 1 1 rfl
 have s1 := cut_cells cs 1 65 66 rfl
 have s2 := cut_last hl (show 66 + 1 = 67 from rfl)
 obtain ⟨c0, e0⟩ := one_cell (cut_len (a := 0) (b := 1) hl (by omega))
 obtain ⟨c2, e2⟩ := one_cell (cut_len (a := 66) (b := 1) hl (by omega))
 rw [e0] at k0
 rw [e2] at k2
 obtain ⟨f, f1, f2, f3⟩ := open_cls1 k0
 obtain ⟨v, v1, v2, v3⟩ := open_vec65 (cut_len hl (by omega)) k1
 obtain ⟨no, n1, n2, n3⟩ := open_vers1 k2
 refine ⟨⟨c0, c2, ⟨f, v, no⟩⟩, ?_, ⟨f1, n1, v2⟩, f2, f3, n2, v3⟩
 rw [List.drop_zero] at s0
 rw [← s0, ← s1, ← s2, e2, v1]
 have : cs.take 1 = [c0] := by rw [← e0, List.drop_zero]
 rw [this]
 rfl
theorem open_item {W : World} {n : Nat} {cs : List Value} {x : DataW H × List MemPlace} (hl : cs.length = 67) (h : DataW.trod enc Tryz.prog W 0 (fun _ => true) true n 45 cs = some x) : ∃ i : Know.It, cs = itV i ∧ ItIn i := by
 obtain ⟨xs, n'', _, _, _, hxs, hfs⟩ := DataW.trod_struct Tryz.underlying45 h
 have hl3 : xs.length = 2 := hxs
 have k0 : DataW.trod enc Tryz.prog W 0 (fun _ => true) true n'' 33 ((cs.drop 0).take (Tryz.prog.cellsOf 33)) = xs[0]? := hfs 0 _ rfl
 have k1 : DataW.trod enc Tryz.prog W 0 (fun _ => true) true n'' 28 ((cs.drop 2).take (Tryz.prog.cellsOf 28)) = xs[1]? := hfs 1 _ rfl
 rw [Know.verCells, List.getElem?_eq_getElem (by omega)] at k0
 rw [Know.vecCells, List.getElem?_eq_getElem (by omega)] at k1
 have s0 := cut_cells cs 0 2 2 rfl
 have s1 := cut_last hl (show 2 + 65 = 67 from rfl)
 obtain ⟨i, i1, i2⟩ := open_ver2 (cut_len hl (by omega)) k0
 obtain ⟨v, v1, v2, v3⟩ := open_vec65 (cut_len hl (by omega)) k1
 refine ⟨⟨i, v⟩, ?_, v2, v3, i2⟩
 rw [List.drop_zero] at s0 i1
 rw [← s0, ← s1, v1, i1]
 rfl
structure KnIn (W : World) (a b : Value) (rs : List RFr) (m : List Know.It) : Prop where
 rows : Rws 67 rfV W (fun i => i < W.heap.size) a rs
 ins : ∀ r ∈ rs, FrIn W r
 len : rs.length ≤ 9223372036854775807
 its : Rws 67 itV W (fun i => i < W.heap.size) b m
 inI : ∀ i ∈ m, ItIn i
 lenI : m.length ≤ 9223372036854775807
theorem open_know2 {W : World} {n : Nat} {cs : List Value} {x : DataW H × List MemPlace} (hl : cs.length = 2) (h : DataW.trod enc Tryz.prog W 0 (fun _ => true) true n 25 cs = some x) : ∃ a b rs m, cs = [a, b] ∧ KnIn W a b rs m := by
 obtain ⟨xs, n'', _, _, _, hxs, hfs⟩ := DataW.trod_struct Tryz.underlying25 h
 have hl3 : xs.length = 2 := hxs
 match cs, hl with
 | [a, b], _ =>
  have k0 : DataW.trod enc Tryz.prog W 0 (fun _ => true) true n'' 22 (([a, b].drop 0).take (Tryz.prog.cellsOf 22)) = xs[0]? := hfs 0 _ rfl
  have k1 : DataW.trod enc Tryz.prog W 0 (fun _ => true) true n'' 23 (([a, b].drop 1).take (Tryz.prog.cellsOf 23)) = xs[1]? := hfs 1 _ rfl
  rw [Know.frsCells, List.getElem?_eq_getElem (by omega)] at k0
  rw [Know.itsCells, List.getElem?_eq_getElem (by omega)] at k1
  obtain ⟨rs, r1, r2, r3⟩ := open_rows (g := rfV) (Q := FrIn W) Tryz.underlying22 Know.frCells (by decide) (fun r hr => rf_len hr.rin.len) (fun hl h => open_frag hl h) (show DataW.trod enc Tryz.prog W 0 (fun _ => true) true n'' 22 [a] = _ from k0)
  obtain ⟨m, m1, m2, m3⟩ := open_rows (g := itV) (Q := ItIn) Tryz.underlying23 Know.itCells (by decide) (fun i hi => it_len hi.len) (fun hl h => open_item hl h) (show DataW.trod enc Tryz.prog W 0 (fun _ => true) true n'' 23 [b] = _ from k1)
  exact ⟨a, b, rs, m, rfl, r1, r3, r2, m1, m3, m2⟩
structure AskIn (W : World) (item v : Ver.V) (c : Value) (l : List Flt.Cl) : Prop where
 bi : Ver.Bd item
 bv : Ver.Bd v
 f : Cls W (fun i => i < W.heap.size) c l
 fl : l.length ≤ 9223372036854775807
 fi : ∀ c ∈ l, Flt.In c
def askV (item v : Ver.V) (c : Value) : List Value := verV item ++ (verV v ++ [c])
theorem open_ask5 {W : World} {n : Nat} {cs : List Value} {x : DataW H × List MemPlace} (hl : cs.length = 5) (h : DataW.trod enc Tryz.prog W 0 (fun _ => true) true n 35 cs = some x) : ∃ item v c f, cs = askV item v c ∧ AskIn W item v c f := by
 obtain ⟨xs, n'', _, _, _, hxs, hfs⟩ := DataW.trod_struct Tryz.underlying35 h
 have hl3 : xs.length = 3 := hxs
 match cs, hl with
 | [a, b, c, d, e], _ =>
  have k0 : DataW.trod enc Tryz.prog W 0 (fun _ => true) true n'' 33 (([a, b, c, d, e].drop 0).take (Tryz.prog.cellsOf 33)) = xs[0]? := hfs 0 _ rfl
  have k1 : DataW.trod enc Tryz.prog W 0 (fun _ => true) true n'' 33 (([a, b, c, d, e].drop 2).take (Tryz.prog.cellsOf 33)) = xs[1]? := hfs 1 _ rfl
  have k2 : DataW.trod enc Tryz.prog W 0 (fun _ => true) true n'' 26 (([a, b, c, d, e].drop 4).take (Tryz.prog.cellsOf 26)) = xs[2]? := hfs 2 _ rfl
  rw [Know.verCells, List.getElem?_eq_getElem (by omega)] at k0 k1
  rw [Know.clsCells, List.getElem?_eq_getElem (by omega)] at k2
  obtain ⟨i, i1, i2⟩ := open_ver2 rfl k0
  obtain ⟨v, v1, v2⟩ := open_ver2 rfl k1
  obtain ⟨f, f1, f2, f3⟩ := open_cls1 (show DataW.trod enc Tryz.prog W 0 (fun _ => true) true n'' 26 [e] = _ from k2)
  refine ⟨i, v, e, f, ?_, i2, v2, f1, f2, f3⟩
  unfold askV
  rw [← i1, ← v1]; rfl
theorem open_four15 {W : World} {v : Value} {d : DataW H} {p : List MemPlace} (hv : ∃ cs, v = .agg cs ∧ cs.size = Tryz.prog.cellsOf 37) (h : DataW.Trod enc Tryz.prog W 0 (fun _ => true) true 37 v d p) :
  ∃ a b rs m r bi bv bc bf ai av ac af, v = .agg ([a, b] ++ (rfV r ++ (askV bi bv bc ++ askV ai av ac))).toArray ∧ KnIn W a b rs m ∧ FrIn W r ∧ AskIn W bi bv bc bf ∧ AskIn W ai av ac af := by
 obtain ⟨cs, rfl, hcs⟩ := hv
 rw [Know.fourCells] at hcs
 obtain ⟨fuel, hf⟩ := h
 obtain ⟨cl⟩ := cs
 have hl : cl.length = 79 := by simpa using hcs
 obtain ⟨xs, n'', _, _, _, hxs, hfs⟩ := DataW.trod_struct Tryz.underlying37 hf
 have hl4 : xs.length = 4 := hxs
 have k0 : DataW.trod enc Tryz.prog W 0 (fun _ => true) true n'' 25 ((cl.drop 0).take (Tryz.prog.cellsOf 25)) = xs[0]? := hfs 0 _ rfl
 have k1 : DataW.trod enc Tryz.prog W 0 (fun _ => true) true n'' 31 ((cl.drop 2).take (Tryz.prog.cellsOf 31)) = xs[1]? := hfs 1 _ rfl
 have k2 : DataW.trod enc Tryz.prog W 0 (fun _ => true) true n'' 35 ((cl.drop 69).take (Tryz.prog.cellsOf 35)) = xs[2]? := hfs 2 _ rfl
 have k3 : DataW.trod enc Tryz.prog W 0 (fun _ => true) true n'' 35 ((cl.drop 74).take (Tryz.prog.cellsOf 35)) = xs[3]? := hfs 3 _ rfl
 rw [Know.knCells, List.getElem?_eq_getElem (by omega)] at k0
 rw [Know.frCells, List.getElem?_eq_getElem (by omega)] at k1
 rw [Know.askCells, List.getElem?_eq_getElem (by omega)] at k2 k3
 obtain ⟨a, b, rs, m, e0, q0⟩ := open_know2 (cut_len hl (by omega)) k0
 obtain ⟨r, e1, q1⟩ := open_frag (cut_len hl (by omega)) k1
 obtain ⟨bi, bv, bc, bf, e2, q2⟩ := open_ask5 (cut_len hl (by omega)) k2
 obtain ⟨ai, av, ac, af, e3, q3⟩ := open_ask5 (cut_len hl (by omega)) k3
 refine ⟨a, b, rs, m, r, bi, bv, bc, bf, ai, av, ac, af, ?_, q0, q1, q2, q3⟩
 have s0 := cut_cells cl 0 2 2 rfl
 have s1 := cut_cells cl 2 67 69 rfl
 have s2 := cut_cells cl 69 5 74 rfl
 have s3 := cut_last hl (show 74 + 5 = 79 from rfl)
 rw [e0] at s0
 rw [e1] at s1
 rw [e2] at s2
 rw [s3] at e3
 rw [List.drop_zero] at s0
 rw [← e3, s2, s1, s0]
end
open Go.RowKit Go.Sort
theorem know_union (V : VecOk) (I : IsetOk) (C : CoverOk) (Z : FilterOk) {w : World} {F G : Nat → Prop} {v u : Value} {a b : Know.K} (ha : Kns w F v a) (hb : Kns w G u b) (hk : Know.Ok (Know.union a b)) : Calls Tryz.prog 15 #[v, u] w fun e w' => ∃ v' c, e = .returned v' ∧ Know.Canon (Know.union a b) c ∧ KnNew w v' c w' ∧ Below w.heap.size w w' := by
 have hz := knZero
 obtain ⟨a1, a2, rfl, ⟨ra, hax, har, hai⟩, hai2⟩ := ha
 obtain ⟨b1, b2, rfl, ⟨rb, hbx, hbr, hbi⟩, hbi2⟩ := hb
 obtain ⟨A, ca, rfl, -⟩ := har.parts
 obtain ⟨B, cb, rfl, -⟩ := hai2.1.parts
 obtain ⟨D, cd, rfl, -⟩ := hbr.parts
 obtain ⟨E, ce, rfl, -⟩ := hbi2.1.parts
 obtain ⟨W0, hW0⟩ : ∃ W0, W0 = ((w.alloc (.cells #[.slice A ra.length ca, .slice B a.items.length cb] 25)).alloc (.cells #[.slice D rb.length cd, .slice E b.items.length ce] 25)).alloc (.cells #[.slice none 0 0, .slice none 0 0] 25) := ⟨_, rfl⟩
 have hb0 : Below w.heap.size w W0 := by rw [hW0]; exact (((Below.refl _ _).alloc (Nat.le_refl _) _).alloc (by simp) _).alloc (by simp; omega) _
 have r0 : Row W0 w.heap.size 25 #[.slice A ra.length ca, .slice B a.items.length cb] := by rw [hW0]; exact ((Row.made w _ _).behindNew _).behindNew _
 have r1 : Row W0 (w.heap.size + 1) 25 #[.slice D rb.length cd, .slice E b.items.length ce] := by
  rw [hW0]
  have := (Row.made (w.alloc (.cells #[.slice A ra.length ca, .slice B a.items.length cb] 25)) 25 #[.slice D rb.length cd, .slice E b.items.length ce]).behindNew (.cells #[.slice none 0 0, .slice none 0 0] 25)
  rwa [World.size_alloc] at this
 have r2 : Row W0 (w.heap.size + 1 + 1) 25 #[.slice none 0 0, .slice none 0 0] := by
  rw [hW0]
  have := Row.made ((w.alloc (.cells #[.slice A ra.length ca, .slice B a.items.length cb] 25)).alloc (.cells #[.slice D rb.length cd, .slice E b.items.length ce] 25)) 25 #[.slice none 0 0, .slice none 0 0]
  rwa [World.size_alloc, World.size_alloc] at this
 have XC := Lib.hid (fun (W : World) (h : InB W0 W) => (⟨(r0.below h.below r0.inHeap).at 0, (r0.below h.below r0.inHeap).at 1, (r1.below h.below r1.inHeap).at 0, (r1.below h.below r1.inHeap).at 1⟩ : W.cell? ⟨w.heap.size, 0, none⟩ = some (.slice A ra.length ca) ∧ W.cell? ⟨w.heap.size, 1, none⟩ = some (.slice B a.items.length cb) ∧ W.cell? ⟨w.heap.size + 1, 0, none⟩ = some (.slice D rb.length cd) ∧ W.cell? ⟨w.heap.size + 1, 1, none⟩ = some (.slice E b.items.length ce)))
 have R2 := Lib.hid (fun (W : World) (h : InB W0 W) => (r2.below h.below r2.inHeap : Row W (w.heap.size + 1 + 1) 25 #[.slice none 0 0, .slice none 0 0]))
 have HS2 := Lib.hid r2.inHeap
 have hlf : ra.length + rb.length ≤ 1000 := by
  have := hk.fr
  unfold Know.union at this
  simp only [List.length_append] at this
  rwa [← hax, ← hbx, List.length_map, List.length_map] at this
 have hli : a.items.length + b.items.length ≤ 1000 := by
  have := hk.it
  unfold Know.union at this
  simpa only [List.length_append] using this
 have CF := Lib.hid (fun (W : World) (h : InB W0 W) (bk : Nat) (r : Row W bk 22 #[.slice A ra.length ca, .slice D rb.length cd]) => fr_concat (Rws.below (Rws.below har hb0) h.below) (Rws.below (Rws.below hbr hb0) h.below) (fun x hx => rf_len (hai x hx).len) (fun x hx => rf_len (hbi x hx).len) (fun x hx => (hai x hx).one) (fun x hx => (hbi x hx).one) (by omega) (by omega) (r.at 0) (r.at 1) r.inHeap)
 have CI := Lib.hid (fun (W : World) (h : InB W0 W) (bk : Nat) (r : Row W bk 23 #[.slice B a.items.length cb, .slice E b.items.length ce]) => it_concat (Rws.below (Rws.below hai2.1 hb0) h.below) (Rws.below (Rws.below hbi2.1 hb0) h.below) (fun x hx => it_len (hai2.2 x hx)) (fun x hx => it_len (hbi2.2 x hx)) (fun x _ => it_one x) (fun x _ => it_one x) (by omega) (by omega) (r.at 0) (r.at 1) r.inHeap)
 have NF := Lib.hid (fun (X W : World) (v' : Value) (hX : InB W0 X) (h : RowsOwn 31 67 rfV X (ra ++ rb) v' W) => show Frs W AnyB v' (Know.union a b).frags from (⟨ra ++ rb, by rw [List.map_append, hax, hbx]; rfl, (h.rows (fun x hx => by rcases List.mem_append.1 hx with hx | hx; exact rf_len (hai x hx).len; exact rf_len (hbi x hx).len)).mono (fun _ _ => trivial), fun x hx => by
  rcases List.mem_append.1 hx with hx | hx
  ·exact ((((hai x hx).below hb0).below hX.below).below h.2).any
  ·exact ((((hbi x hx).below hb0).below hX.below).below h.2).any⟩))
 have NI := Lib.hid (fun (X W : World) (v' : Value) (h : RowsOwn 45 67 itV X (a.items ++ b.items) v' W) => show Its W AnyB v' (Know.union a b).items from (⟨(h.rows (fun x hx => by rcases List.mem_append.1 hx with hx | hx; exact it_len (hai2.2 x hx); exact it_len (hbi2.2 x hx))).mono (fun _ _ => trivial), fun x hx => by
  rcases List.mem_append.1 hx with hx | hx
  ·exact hai2.2 x hx
  ·exact hbi2.2 x hx⟩))
 have CA := Lib.hid (fun (W : World) (x y : Value) (hf : Frs W AnyB x (Know.union a b).frags) (hi : Its W AnyB y (Know.union a b).items) => know_canon V I C Z (⟨x, y, rfl, hf, hi⟩ : Kns W AnyB (.agg #[x, y]) (Know.union a b)) hk)
 have HB0 := Lib.hid hb0
 clear har hai hai2 hbr hbi hbi2 hk hb0 r0 r1 r2 hax hbx hlf hli
 go_enter Tryz.func15, Tryz.ntmps15
 go_wp2_with fail
 rw [← hW0]
 clear hW0
 refine wp_region_tail (n := 14) (S := (fun w' : World => InB W0 w')) (by kernel_rfl) (by kernel_rfl) (by rfl) ((InB.refl W0).drew) (fun hHeld => ?_)
 generalize W0.drew = wd at *
 refine wpAnyH_td (i := 0) rfl ?_
 simp only [zz]
 refine wpAnyH_tk (i := 1) (v := ?_) rfl (Or.inl ⟨by rfl, (by intro w hSw; obtain ⟨c0, c1, c2, c3⟩ := XC.out _ hSw; go_simp; try with_reducible rfl)⟩) (by assumption) ?_
 simp only [zz]
 refine wpAnyH_td (i := 2) rfl ?_
 simp only [zz]
 refine wpAnyH_tk (i := 3) (v := ?_) rfl (Or.inl ⟨by rfl, (by intro w hSw; obtain ⟨c0, c1, c2, c3⟩ := XC.out _ hSw; go_simp; try with_reducible rfl)⟩) (by assumption) ?_
 simp only [zz]
 refine wpAnyH_td (i := 6) rfl ?_
 simp only [zz]
 refine wpAnyH_tk (i := 7) (v := ?_) rfl (Or.inl ⟨by rfl, (by intro w hSw; obtain ⟨c0, c1, c2, c3⟩ := XC.out _ hSw; go_simp; try with_reducible rfl)⟩) (by assumption) ?_
 simp only [zz]
 refine wpAnyH_td (i := 8) rfl ?_
 simp only [zz]
 refine wpAnyH_tk (i := 9) (v := ?_) rfl (Or.inl ⟨by rfl, (by intro w hSw; obtain ⟨c0, c1, c2, c3⟩ := XC.out _ hSw; go_simp; try with_reducible rfl)⟩) (by assumption) ?_
 simp only [zz]
 refine wpAnyH_ready (rs := [4, 10]) (by kernel_rfl) (by simp) ?_
 refine (AllReadyH.cons rfl (fun K hK => ?_) (AllReadyH.cons rfl (fun K hK => ?_) AllReadyH.nil))
 ·go_simp
  have hb : Below wd.heap.size wd (wd.alloc (.cells #[.slice A ra.length ca, .slice D rb.length cd] 22)) := (Below.refl _ _).alloc (Nat.le_refl _) _
  have hL := InB.trans hHeld hb
  have B4 := Lib.hid (Row.made wd 22 #[.slice A ra.length ca, .slice D rb.length cd])
  refine hK.out _ _ hL (fun hHeld => ?_)
  clear hL hb
  generalize wd.alloc (.cells #[.slice A ra.length ca, .slice D rb.length cd] 22) = w104 at *
  clear hK K
  refine wpAnyH_ready (rs := [5, 10]) (by kernel_rfl) (by simp) ?_
  refine (AllReadyH.cons rfl (fun K hK => ?_) (AllReadyH.cons rfl (fun K hK => ?_) AllReadyH.nil))
  ·go_simp
   go_at_call 39
   refine (CF.out _ hHeld _ B4.out).mono ?_
   rintro e w105 ⟨v5, rfl, h⟩
   have hL := InB.trans hHeld h.2
   have hb := h.2
   have B4 := Lib.hid (B4.out.below hb B4.out.inHeap)
   have N5 := Lib.hid (NF.out _ _ _ hHeld h)
   obtain ⟨A5, c5, e5, -⟩ := N5.out.parts
   generalize (Know.union a b).frags.length = m5 at e5
   subst e5
   refine hK.out _ _ hL (fun hHeld => ?_)
   clear h hL hb
   clear hK K
   refine wpAnyH_ready (rs := [10]) (by kernel_rfl) (by simp) ?_
   refine (AllReadyH.cons rfl (fun K hK => ?_) AllReadyH.nil)
   go_simp
   have hb : Below w105.heap.size w105 (w105.alloc (.cells #[.slice B a.items.length cb, .slice E b.items.length ce] 23)) := (Below.refl _ _).alloc (Nat.le_refl _) _
   have hL := InB.trans hHeld hb
   have B4 := Lib.hid (B4.out.below hb B4.out.inHeap)
   have N5 := Lib.hid (N5.out.below hb)
   have B10 := Lib.hid (Row.made w105 23 #[.slice B a.items.length cb, .slice E b.items.length ce])
   refine hK.out _ _ hL (fun hHeld => ?_)
   clear hL hb
   generalize w105.alloc (.cells #[.slice B a.items.length cb, .slice E b.items.length ce] 23) = w110 at *
   clear hK K
   refine wpAnyH_ready (rs := [11]) (by kernel_rfl) (by simp) ?_
   refine (AllReadyH.cons rfl (fun K hK => ?_) AllReadyH.nil)
   go_simp
   go_at_call 40
   refine (CI.out _ hHeld _ B10.out).mono ?_
   rintro e w111 ⟨v11, rfl, h⟩
   have hL := InB.trans hHeld h.2
   have hb := h.2
   have B4 := Lib.hid (B4.out.below hb B4.out.inHeap)
   have N5 := Lib.hid (N5.out.below hb)
   have B10 := Lib.hid (B10.out.below hb B10.out.inHeap)
   have N11 := Lib.hid (NI.out _ _ _ h)
   have n11 : Its w111 AnyB v11 (Know.union a b).items := N11.out
   obtain ⟨A11, c11, e5, -⟩ := Rws.parts n11.1
   clear n11
   generalize (Know.union a b).items.length = m11 at e5
   subst e5
   refine hK.out _ _ hL (fun hHeld => ?_)
   clear h hL hb
   clear hK K
   refine wpAnyH_td (i := 12) rfl ?_
   simp only [zz]
   refine wpAnyH_ready (rs := [13]) (by kernel_rfl) (by simp) ?_
   refine (AllReadyH.cons rfl (fun K hK => ?_) AllReadyH.nil)
   go_simp
   go_at_call 38
   refine (CA.out _ _ _ N5.out N11.out).mono ?_
   rintro e w113 ⟨v13, c, rfl, hc, hk5, b5⟩
   obtain ⟨A6, m6, e6, B6, n6, d6, rfl⟩ := hk5.parts
   have S5 := InB.trans hHeld b5
   have KE := kn_end (b := w.heap.size + 1 + 1) hk5 (R2.out w113 S5) (Nat.lt_of_lt_of_le HS2.out hHeld.below.size) (HB0.out.trans (S5.below.mono HB0.out.size)) (Nat.le_succ_of_le (Nat.le_succ _))
   have T9 := Lib.hid KE.1
   have R9 := Lib.hid KE.2.1
   have K9 := Lib.hid KE.2.2.1
   have B9 := Lib.hid KE.2.2.2
   have HC := Lib.hid hc
   refine hK.out _ _ S5 (fun hHeld => ?_)
   clear KE S5 b5 hk5 hc
   clear hK K
   refine wpAnyH_done (by kernel_rfl) ?_ _
   have hHeld1 := hHeld
   refine wpAny_of_held (S := fun _ => True) _ _ _ _ ?_
   have hHeld : True := trivial
   refine wpAnyH_ready (rs := [14]) (by kernel_rfl) (by simp) ?_
   refine AllReadyH.cons rfl (fun K hK => ?_) AllReadyH.nil
   refine step_mstore (.tmp 4) (.tmp 18) rfl (by rfl) (by rfl) (by rfl) T9.out (knSize _ _) (two_one rfl rfl) ?_
   refine hK.out _ _ trivial (fun hHeld => ?_)
   clear hK K
   refine wpAnyH_done (by kernel_rfl) ?_ _
   go_wp2_with fail
   exact bodyPost_ret (v := .agg #[.slice A6 m6 e6, .slice B6 n6 d6]) (results_cell_row (by rfl) _ _ (w.heap.size + 1 + 1) 25 _ (0, 0) _ (by rfl) R9.out Tryz.underlying25 rfl (knSizeA _ _)) rfl ⟨_, _, rfl, HC.out, K9.out, B9.out⟩
  ·go_simp
   have hb : Below w104.heap.size w104 (w104.alloc (.cells #[.slice B a.items.length cb, .slice E b.items.length ce] 23)) := (Below.refl _ _).alloc (Nat.le_refl _) _
   have hL := InB.trans hHeld hb
   have B4 := Lib.hid (B4.out.below hb B4.out.inHeap)
   have B10 := Lib.hid (Row.made w104 23 #[.slice B a.items.length cb, .slice E b.items.length ce])
   refine hK.out _ _ hL (fun hHeld => ?_)
   clear hL hb
   generalize w104.alloc (.cells #[.slice B a.items.length cb, .slice E b.items.length ce] 23) = w110 at *
   clear hK K
   refine wpAnyH_ready (rs := [5]) (by kernel_rfl) (by simp) ?_
   refine (AllReadyH.cons rfl (fun K hK => ?_) AllReadyH.nil)
   go_simp
   go_at_call 39
   refine (CF.out _ hHeld _ B4.out).mono ?_
   rintro e w105 ⟨v5, rfl, h⟩
   have hL := InB.trans hHeld h.2
   have hb := h.2
   have B4 := Lib.hid (B4.out.below hb B4.out.inHeap)
   have B10 := Lib.hid (B10.out.below hb B10.out.inHeap)
   have N5 := Lib.hid (NF.out _ _ _ hHeld h)
   obtain ⟨A5, c5, e5, -⟩ := N5.out.parts
   generalize (Know.union a b).frags.length = m5 at e5
   subst e5
   refine hK.out _ _ hL (fun hHeld => ?_)
   clear h hL hb
   clear hK K
   refine wpAnyH_ready (rs := [11]) (by kernel_rfl) (by simp) ?_
   refine (AllReadyH.cons rfl (fun K hK => ?_) AllReadyH.nil)
   go_simp
   go_at_call 40
   refine (CI.out _ hHeld _ B10.out).mono ?_
   rintro e w111 ⟨v11, rfl, h⟩
   have hL := InB.trans hHeld h.2
   have hb := h.2
   have B4 := Lib.hid (B4.out.below hb B4.out.inHeap)
   have B10 := Lib.hid (B10.out.below hb B10.out.inHeap)
   have N5 := Lib.hid (N5.out.below hb)
   have N11 := Lib.hid (NI.out _ _ _ h)
   have n11 : Its w111 AnyB v11 (Know.union a b).items := N11.out
   obtain ⟨A11, c11, e5, -⟩ := Rws.parts n11.1
   clear n11
   generalize (Know.union a b).items.length = m11 at e5
   subst e5
   refine hK.out _ _ hL (fun hHeld => ?_)
   clear h hL hb
   clear hK K
   refine wpAnyH_td (i := 12) rfl ?_
   simp only [zz]
   refine wpAnyH_ready (rs := [13]) (by kernel_rfl) (by simp) ?_
   refine (AllReadyH.cons rfl (fun K hK => ?_) AllReadyH.nil)
   go_simp
   go_at_call 38
   refine (CA.out _ _ _ N5.out N11.out).mono ?_
   rintro e w113 ⟨v13, c, rfl, hc, hk5, b5⟩
   obtain ⟨A6, m6, e6, B6, n6, d6, rfl⟩ := hk5.parts
   have S5 := InB.trans hHeld b5
   have KE := kn_end (b := w.heap.size + 1 + 1) hk5 (R2.out w113 S5) (Nat.lt_of_lt_of_le HS2.out hHeld.below.size) (HB0.out.trans (S5.below.mono HB0.out.size)) (Nat.le_succ_of_le (Nat.le_succ _))
   have T9 := Lib.hid KE.1
   have R9 := Lib.hid KE.2.1
   have K9 := Lib.hid KE.2.2.1
   have B9 := Lib.hid KE.2.2.2
   have HC := Lib.hid hc
   refine hK.out _ _ S5 (fun hHeld => ?_)
   clear KE S5 b5 hk5 hc
   clear hK K
   refine wpAnyH_done (by kernel_rfl) ?_ _
   have hHeld1 := hHeld
   refine wpAny_of_held (S := fun _ => True) _ _ _ _ ?_
   have hHeld : True := trivial
   refine wpAnyH_ready (rs := [14]) (by kernel_rfl) (by simp) ?_
   refine AllReadyH.cons rfl (fun K hK => ?_) AllReadyH.nil
   refine step_mstore (.tmp 4) (.tmp 18) rfl (by rfl) (by rfl) (by rfl) T9.out (knSize _ _) (two_one rfl rfl) ?_
   refine hK.out _ _ trivial (fun hHeld => ?_)
   clear hK K
   refine wpAnyH_done (by kernel_rfl) ?_ _
   go_wp2_with fail
   exact bodyPost_ret (v := .agg #[.slice A6 m6 e6, .slice B6 n6 d6]) (results_cell_row (by rfl) _ _ (w.heap.size + 1 + 1) 25 _ (0, 0) _ (by rfl) R9.out Tryz.underlying25 rfl (knSizeA _ _)) rfl ⟨_, _, rfl, HC.out, K9.out, B9.out⟩
 ·go_simp
  have hb : Below wd.heap.size wd (wd.alloc (.cells #[.slice B a.items.length cb, .slice E b.items.length ce] 23)) := (Below.refl _ _).alloc (Nat.le_refl _) _
  have hL := InB.trans hHeld hb
  have B10 := Lib.hid (Row.made wd 23 #[.slice B a.items.length cb, .slice E b.items.length ce])
  refine hK.out _ _ hL (fun hHeld => ?_)
  clear hL hb
  generalize wd.alloc (.cells #[.slice B a.items.length cb, .slice E b.items.length ce] 23) = w110 at *
  clear hK K
  refine wpAnyH_ready (rs := [4]) (by kernel_rfl) (by simp) ?_
  refine (AllReadyH.cons rfl (fun K hK => ?_) AllReadyH.nil)
  go_simp
  have hb : Below w110.heap.size w110 (w110.alloc (.cells #[.slice A ra.length ca, .slice D rb.length cd] 22)) := (Below.refl _ _).alloc (Nat.le_refl _) _
  have hL := InB.trans hHeld hb
  have B10 := Lib.hid (B10.out.below hb B10.out.inHeap)
  have B4 := Lib.hid (Row.made w110 22 #[.slice A ra.length ca, .slice D rb.length cd])
  refine hK.out _ _ hL (fun hHeld => ?_)
  clear hL hb
  generalize w110.alloc (.cells #[.slice A ra.length ca, .slice D rb.length cd] 22) = w104 at *
  clear hK K
  refine wpAnyH_ready (rs := [5]) (by kernel_rfl) (by simp) ?_
  refine (AllReadyH.cons rfl (fun K hK => ?_) AllReadyH.nil)
  go_simp
  go_at_call 39
  refine (CF.out _ hHeld _ B4.out).mono ?_
  rintro e w105 ⟨v5, rfl, h⟩
  have hL := InB.trans hHeld h.2
  have hb := h.2
  have B10 := Lib.hid (B10.out.below hb B10.out.inHeap)
  have B4 := Lib.hid (B4.out.below hb B4.out.inHeap)
  have N5 := Lib.hid (NF.out _ _ _ hHeld h)
  obtain ⟨A5, c5, e5, -⟩ := N5.out.parts
  generalize (Know.union a b).frags.length = m5 at e5
  subst e5
  refine hK.out _ _ hL (fun hHeld => ?_)
  clear h hL hb
  clear hK K
  refine wpAnyH_ready (rs := [11]) (by kernel_rfl) (by simp) ?_
  refine (AllReadyH.cons rfl (fun K hK => ?_) AllReadyH.nil)
  go_simp
  go_at_call 40
  refine (CI.out _ hHeld _ B10.out).mono ?_
  rintro e w111 ⟨v11, rfl, h⟩
  have hL := InB.trans hHeld h.2
  have hb := h.2
  have B10 := Lib.hid (B10.out.below hb B10.out.inHeap)
  have B4 := Lib.hid (B4.out.below hb B4.out.inHeap)
  have N5 := Lib.hid (N5.out.below hb)
  have N11 := Lib.hid (NI.out _ _ _ h)
  have n11 : Its w111 AnyB v11 (Know.union a b).items := N11.out
  obtain ⟨A11, c11, e5, -⟩ := Rws.parts n11.1
  clear n11
  generalize (Know.union a b).items.length = m11 at e5
  subst e5
  refine hK.out _ _ hL (fun hHeld => ?_)
  clear h hL hb
  clear hK K
  refine wpAnyH_td (i := 12) rfl ?_
  simp only [zz]
  refine wpAnyH_ready (rs := [13]) (by kernel_rfl) (by simp) ?_
  refine (AllReadyH.cons rfl (fun K hK => ?_) AllReadyH.nil)
  go_simp
  go_at_call 38
  refine (CA.out _ _ _ N5.out N11.out).mono ?_
  rintro e w113 ⟨v13, c, rfl, hc, hk5, b5⟩
  obtain ⟨A6, m6, e6, B6, n6, d6, rfl⟩ := hk5.parts
  have S5 := InB.trans hHeld b5
  have KE := kn_end (b := w.heap.size + 1 + 1) hk5 (R2.out w113 S5) (Nat.lt_of_lt_of_le HS2.out hHeld.below.size) (HB0.out.trans (S5.below.mono HB0.out.size)) (Nat.le_succ_of_le (Nat.le_succ _))
  have T9 := Lib.hid KE.1
  have R9 := Lib.hid KE.2.1
  have K9 := Lib.hid KE.2.2.1
  have B9 := Lib.hid KE.2.2.2
  have HC := Lib.hid hc
  refine hK.out _ _ S5 (fun hHeld => ?_)
  clear KE S5 b5 hk5 hc
  clear hK K
  refine wpAnyH_done (by kernel_rfl) ?_ _
  have hHeld1 := hHeld
  refine wpAny_of_held (S := fun _ => True) _ _ _ _ ?_
  have hHeld : True := trivial
  refine wpAnyH_ready (rs := [14]) (by kernel_rfl) (by simp) ?_
  refine AllReadyH.cons rfl (fun K hK => ?_) AllReadyH.nil
  refine step_mstore (.tmp 4) (.tmp 18) rfl (by rfl) (by rfl) (by rfl) T9.out (knSize _ _) (two_one rfl rfl) ?_
  refine hK.out _ _ trivial (fun hHeld => ?_)
  clear hK K
  refine wpAnyH_done (by kernel_rfl) ?_ _
  go_wp2_with fail
  exact bodyPost_ret (v := .agg #[.slice A6 m6 e6, .slice B6 n6 d6]) (results_cell_row (by rfl) _ _ (w.heap.size + 1 + 1) 25 _ (0, 0) _ (by rfl) R9.out Tryz.underlying25 rfl (knSizeA _ _)) rfl ⟨_, _, rfl, HC.out, K9.out, B9.out⟩
end Go.Proofs.YtkcgmnhjofoeiaaGreat
