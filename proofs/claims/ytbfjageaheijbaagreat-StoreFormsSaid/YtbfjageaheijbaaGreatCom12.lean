/- What came in to layer 6's laws, opened: changes; a piece of them. -/
import Derived.Test.YtbfjageaheijbaaGreatCom11
import Derived.Test.YtbfjageaheijbaaGreatCom1
import Derived.Test.YtbfjageaheijbaaGreatCom7
import Derived.Test.YtbfjageaheijbaaGreatCom3
import Derived.Deep.Fields
import Derived.OwnWalk
import Derived.Lib.Strings
import Derived.Deep.RegionHeld3
import Derived.Deep.Slices
import Derived.Maps.OwnSet
import Derived.Maps.RangeWalk
import Derived.Deep.MidRow
import Derived.Deep.WholeRow
set_option linter.unusedSimpArgs false
set_option linter.unusedVariables false
namespace Go.Proofs.YtbfjageaheijbaaGreat
open Go.ChangeShapes Go.WideShapes Go.ChangeAt Go.RowKit Go.Deep

set_option maxRecDepth 100000 in
theorem Sto.stringCells : Tryz.prog.cellsOf 9 = 1 := by kernel_rfl
set_option maxRecDepth 100000 in
theorem Sto.boolCells : Tryz.prog.cellsOf 4 = 1 := by kernel_rfl
set_option maxRecDepth 100000 in
theorem Sto.changeCells : Tryz.prog.cellsOf 52 = 3 := by kernel_rfl

set_option maxRecDepth 100000 in
theorem Sto.in_heap {W : World} {a : Addr} {v : Value} (h : W.cell? a = some v) : a.block < W.heap.size ∧ a.spot = none := by
  refine ⟨World.block_lt_of_cell? W a h, ?_⟩
  exact World.cell?_spot h

set_option maxRecDepth 100000 in
/-- From 'for each index there is one' to a list. -/
theorem Sto.list_of {α : Type} {p : Nat → α → Prop} : ∀ n, (∀ i, i < n → ∃ x, p i x) → ∃ l : List α, l.length = n ∧ ∀ i x, l[i]? = some x → p i x
  | 0, _ => ⟨[], rfl, fun i x h => by simp at h⟩
  | n + 1, h => by
    obtain ⟨l, hl, hp⟩ := Sto.list_of n (fun i hi => h i (by omega))
    obtain ⟨x, hx⟩ := h n (by omega)
    refine ⟨l ++ [x], by simp [hl], fun i y hy => ?_⟩
    by_cases hi : i < n
    · rw [List.getElem?_append_left (by omega)] at hy
      exact hp i y hy
    · have hin : i < (l ++ [x]).length := (List.getElem?_eq_some_iff.1 hy).1
      have : i = n := by simp [hl] at hin; omega
      subst this
      rw [List.getElem?_append_right (by omega), hl, Nat.sub_self] at hy
      simp at hy
      rw [← hy]; exact hx

section
variable {H : Type} {enc : TypeId × Value → H}

set_option maxRecDepth 100000 in
/-- Changes, as their cells say. -/
theorem open_chs {W : World} {c : Value} {n : Nat} {d : DataW H × List MemPlace} (h : DataW.trod enc Tryz.prog W 0 (fun _ => true) true n 33 [c] = some d) :
    ∃ (A : Option Addr) (len cap : Nat) (cs : List Sto.Ch), c = .slice A len cap ∧ Changes W (fun i => i < W.heap.size) c cs ∧ cs.length = len ∧ len ≤ cap ∧ len ≤ 9223372036854775807 := by
  obtain ⟨d, pl⟩ := d
  rcases open_slice Tryz.underlying33 h with ⟨hcs, _⟩ | ⟨a, len', cap', m, n', D, Pl, hcs, _, hl, hm, hmm, _, hi⟩
  · simp at hcs
    exact ⟨none, 0, 0, [], hcs, by rw [hcs]; exact Rws.none _ _ _, rfl, Nat.le_refl _, by omega⟩
  · simp at hcs
    subst hcs
    simp at hmm
    unfold maxLen at hm
    have hcell : ∀ i, i < len' → ∃ f : Sto.Ch, W.cell? (a.add (i * 3)) = some (.string (mk f.key)) ∧ W.cell? (a.add (i * 3 + 1)) = some (.string (mk f.val)) ∧ W.cell? (a.add (i * 3 + 2)) = some (.bool f.gone) := by
      intro i hil
      obtain ⟨cs', hc, ht⟩ := hi i (by omega)
      rw [Sto.changeCells] at hc
      obtain ⟨_, hcl, hat⟩ := World.cells?_some hc
      obtain ⟨xs, n'', _, _, _, hxs, hfs⟩ := DataW.trod_struct Tryz.underlying52 ht
      match cs', hcl with
      | [c0, c1, c2], _ =>
        have hl3 : xs.length = 3 := hxs
        have k0 : DataW.trod enc Tryz.prog W 0 (fun _ => true) true n'' 9 (([c0, c1, c2].drop 0).take (Tryz.prog.cellsOf 9)) = xs[0]? := hfs 0 _ rfl
        have k1 : DataW.trod enc Tryz.prog W 0 (fun _ => true) true n'' 9 (([c0, c1, c2].drop 1).take (Tryz.prog.cellsOf 9)) = xs[1]? := hfs 1 _ rfl
        have k2 : DataW.trod enc Tryz.prog W 0 (fun _ => true) true n'' 4 (([c0, c1, c2].drop 2).take (Tryz.prog.cellsOf 4)) = xs[2]? := hfs 2 _ rfl
        rw [Sto.stringCells, List.getElem?_eq_getElem (by omega)] at k0 k1
        rw [Sto.boolCells, List.getElem?_eq_getElem (by omega)] at k2
        obtain ⟨x0, e0, _, _⟩ := DataW.trod_string Tryz.underlying9 k0
        obtain ⟨x1, e1, _, _⟩ := DataW.trod_string Tryz.underlying9 k1
        obtain ⟨x2, e2, _⟩ := DataW.trod_bool Tryz.underlying4 k2
        have e0 : c0 = .string x0 := by simpa using e0
        have e1 : c1 = .string x1 := by simpa using e1
        have e2 : c2 = .bool x2 := by simpa using e2
        refine ⟨⟨x0.data.toList, x1.data.toList, x2⟩, ?_, ?_, ?_⟩
        · have := hat 0 (by omega)
          rw [e0, Go.Deep.add_add] at this
          rw [mk_of]
          exact this
        · have := hat 1 (by omega)
          rw [e1, Go.Deep.add_add] at this
          rw [mk_of]
          exact this
        · have := hat 2 (by omega)
          rw [e2, Go.Deep.add_add] at this
          exact this
    obtain ⟨l, hll, hlp⟩ := Sto.list_of len' hcell
    refine ⟨some a, len', cap', l, rfl, ⟨some a, cap', by rw [hll], by rw [hll]; exact hl, fun hpos => ?_⟩, hll, hl, by omega⟩
    rw [hll] at hpos
    obtain ⟨x0, h0, _⟩ := hcell 0 hpos
    have hb := Sto.in_heap h0
    obtain ⟨b, off, spot⟩ := a
    have hs : spot = none := by simpa [Addr.add] using hb.2
    subst hs
    have hb1 : b < W.heap.size := by simpa [Addr.add] using hb.1
    refine ⟨b, off, rfl, hb1, hb1, fun i x hx j u hu => ?_⟩
    obtain ⟨q0, q1, q2⟩ := hlp i x hx
    rw [Go.WideShapes.add_plain] at q0 q1 q2
    match j, hu with
    | 0, hu => simp [chV] at hu; subst hu; exact q0
    | 1, hu => simp [chV] at hu; subst hu; rw [← Nat.add_assoc] at q1; exact q1
    | 2, hu => simp [chV] at hu; subst hu; rw [← Nat.add_assoc] at q2; exact q2

set_option maxRecDepth 100000 in
theorem open_changes {W : World} {v : Value} {d : DataW H} {p : List MemPlace} (h : DataW.Trod enc Tryz.prog W 0 (fun _ => true) true 33 v d p) (hv : ∃ a len cap, v = .slice a len cap) :
    ∃ (A : Option Addr) (len cap : Nat) (cs : List Sto.Ch), v = .slice A len cap ∧ Changes W (fun i => i < W.heap.size) v cs ∧ cs.length = len ∧ len ≤ cap ∧ len ≤ 9223372036854775807 := by
  obtain ⟨A, len, cap, rfl⟩ := hv
  obtain ⟨fuel, hf⟩ := h
  exact open_chs (by simpa [Value.cells] using hf)
end

set_option maxRecDepth 100000 in
/-- One of them, as a piece of the slice. -/
theorem Changes.piece {w : World} {F : Nat → Prop} {b o cap : Nat} {cs : List Sto.Ch} (h : Changes w F (.slice (some ⟨b, o, none⟩) cs.length cap) cs) (hc : cs.length ≤ cap) {m : Nat} {x : Sto.Ch} (hx : cs[m]? = some x) :
    Changes w F (.slice (some ⟨b, o + m * 3, none⟩) 1 (cap - m)) [x] := by
  obtain ⟨hl, he⟩ := List.getElem?_eq_some_iff.1 hx
  have h1 := h.drop rfl m (by omega) (cap - m) (by omega)
  have e : (cs.drop m).length = cs.length - m := List.length_drop
  rw [← e] at h1
  have h2 := h1.take rfl 1 (by rw [e]; omega) (cap - m) (by omega)
  have e2 : (cs.drop m).take 1 = [x] := by
    rw [List.drop_eq_getElem_cons hl, he]
    rfl
  rw [e2] at h2
  exact h2

set_option maxRecDepth 100000 in
/-- A change laid into a block of its own. -/
theorem change_cells (w : World) (x : Sto.Ch) : Changes (w.alloc (.cells #[.string (mk x.key), .string (mk x.val), .bool x.gone] 52)) (fun i => i = w.heap.size) (.slice (some ⟨w.heap.size, 0, none⟩) 1 1) [x] :=
  ⟨some ⟨w.heap.size, 0, none⟩, 1, rfl, Nat.le_refl _, fun _ => ⟨w.heap.size, 0, rfl, rfl, by simp, fun i y hy j u hu => by
    rw [(Row.made w _ _).at]
    match i, hy with
    | 0, hy =>
      simp at hy; subst hy
      match j, hu with
      | 0, hu => simp [chV] at hu; subst hu; rfl
      | 1, hu => simp [chV] at hu; subst hu; rfl
      | 2, hu => simp [chV] at hu; subst hu; rfl⟩⟩
end Go.Proofs.YtbfjageaheijbaaGreat
/- The keys that begin with any text: StoreKeys out of the contracts. -/
namespace Go.Proofs.YtbfjageaheijbaaGreat
open Go.RowKit Dsk Jnl

section
variable {At : World → (Nat → Prop) → Value → D → Prop} {Own : World → (Nat → Prop) → Value → Value → Nat → Sto.Sr → Prop}

/-- A store that stands, and the law's own list of its values. -/
structure Stands (At : World → (Nat → Prop) → Value → D → Prop) (Own : World → (Nat → Prop) → Value → Value → Nat → Sto.Sr → Prop) (W : World) (dv sv : Value) (n : Nat) (d : D) (s : Sto.Sr) (pv : Value) (Z : Nat → Prop) (w : World) : Prop where
  sw : Sw At Own W Z dv sv n d s w
  old : ∀ i, i < W.heap.size → Z i
  pairs : Pairs w Z pv s.vals

/-- What is so of its state. -/
structure Plain (n : Nat) (d : D) (s : Sto.Sr) (K M : Nat) : Prop where
  lives : Sto.Lives n d s
  fine : d.Fine K
  quota : 0 ≤ s.quota ∧ s.quota ≤ 1048576
  whole : Sto.whole s.vals ≤ 64 * hof n
  seq : s.j.seq ≤ M

set_option maxRecDepth 100000 in
theorem Plain.good {n : Nat} {d : D} {s : Sto.Sr} {K M : Nat} (h : Plain n d s K M) (hn : n ≤ 1026) : Good s :=
  good_of h.lives (by have := h.whole; have : 64 * hof n ≤ 65536 := by unfold hof; omega
                      omega) h.quota.1 h.quota.2

set_option maxRecDepth 100000 in
theorem Plain.mono {n : Nat} {d : D} {s : Sto.Sr} {K M K' M' : Nat} (h : Plain n d s K M) (hK : K ≤ K') (hM : M ≤ M') : Plain n d s K' M' := ⟨h.lives, h.fine.mono hK, h.quota, h.whole, Nat.le_trans h.seq hM⟩

set_option maxRecDepth 100000 in
/-- A transaction on a calm disk: not done, or done. -/
theorem Plain.doing {n : Nat} {d : D} {s : Sto.Sr} {K M : Nat} {cs : List Sto.Ch} (h : Plain n d s K M) (hc : Calm d) (hn : 4 ≤ n) (hn2 : n ≤ 1026) (hM : M < 9223372036854775807) :
    ((Sto.doing n d s cs).1 ≠ 0 ∧ (Sto.doing n d s cs).2 = (d, s)) ∨
    ((Sto.doing n d s cs).1 = 0 ∧ Plain n (Sto.doing n d s cs).2.1 (Sto.doing n d s cs).2.2 (K + (2 * hof n + 6)) (M + 1) ∧ Calm (Sto.doing n d s cs).2.1 ∧ (Sto.doing n d s cs).2.2.vals = Sto.after s.vals cs ∧ (Sto.doing n d s cs).2.2.quota = s.quota) := by
  rcases doing_calm (cs := cs) h.lives hc hn hn2 (by have := h.seq; omega) with ⟨h1, h2⟩ | ⟨h1, h2, h3⟩ | ⟨h1, h2, h3, h4, h5, h6, h7⟩
  · exact Or.inl ⟨by rw [h2]; exact h1, by rw [h2]⟩
  · exact Or.inl ⟨by rw [h3]; exact (show (10 : Int) ≠ 0 by decide), by rw [h3]⟩
  · exact Or.inr ⟨h3, ⟨h4, Sto.doing_fine h.fine, by rw [h6]; exact h.quota, by rw [h5]; exact h2, by have := h.seq; omega⟩, calm_doing hc, h5, h6⟩

variable {W w w' : World} {dv sv pv : Value} {n : Nat} {d : D} {s : Sto.Sr} {Z : Nat → Prop}

set_option maxRecDepth 100000 in
theorem Stands.same (U : DiskUse At) (H : StoreOk At Own) (h : Stands At Own W dv sv n d s pv Z w) (hg : Good s) :
    Calls Tryz.prog 19 #[sv, pv] w fun e w' => e = .returned (.bool true) ∧ Stands At Own W dv sv n d s pv Z w' ∧ SameZ Z w w' := by
  refine (same_any U H h.sw hg h.pairs hg.few hg.fit).mono ?_
  rintro e w' ⟨rfl, k1, k2⟩
  exact ⟨by rw [decide_eq_true rfl], ⟨k1, h.old, k2.rws h.pairs (fun _ h => h)⟩, k2⟩

set_option maxRecDepth 100000 in
/-- The law's After, behind a transaction. -/
theorem Stands.next (U : DiskUse At) (H : StoreOk At Own) {s' : Sto.Sr} {pv' : Value} {Y : Nat → Prop} {a b : World} (h : Sw At Own W Y dv sv n d s' a) (hY : ∀ i, i < W.heap.size → Y i) (hv : Vals a Y s'.vals pv' b) : Stands At Own W dv sv n d s' pv' (fun i => Y i ∨ NewIn a b i) b :=
  ⟨h.more U H hv.2 (fun i hi => hi), fun i hi => Or.inl (hY i hi), hv.1⟩

set_option maxRecDepth 100000 in
/-- A change in a block of its own, and what is done with it. -/
theorem stands_do_at (U : DiskUse At) (H : StoreOk At Own) (h : Stands At Own W dv sv n d s pv Z w) {K M : Nat} (hp : Plain n d s K M) (hn : 4 ≤ n) (hn2 : n ≤ 1026) (hK : K + (2 * hof n + 6) ≤ 100000) (x : Sto.Ch) {w1 : World}
    (hw : Below (w.alloc (.cells #[.string (mk x.key), .string (mk x.val), .bool x.gone] 52)).heap.size (w.alloc (.cells #[.string (mk x.key), .string (mk x.val), .bool x.gone] 52)) w1) :
    Calls Tryz.prog 17 #[sv, .slice (some ⟨w.heap.size, 0, none⟩) 1 1] w1 fun e w' =>
      e = .returned (.int .i64 (Sto.doing n d s [x]).1) ∧ Sw At Own W (fun i => Z i ∨ i = w.heap.size) dv sv n (Sto.doing n d s [x]).2.1 (Sto.doing n d s [x]).2.2 w' ∧ Pairs w' (fun i => Z i ∨ i = w.heap.size) pv s.vals := by
  have hw0 : Below w.heap.size w w1 := ((Below.refl _ _).alloc (Nat.le_refl _) _).trans (hw.mono (by simp))
  have hsz := hw.size
  have hb := h.sw.more U H (w' := w1) hw0 (Y := fun i => Z i ∨ i = w.heap.size) (fun i hi => hi.elim Or.inl (fun e => Or.inr (by subst e; simp at hsz; omega)))
  have hpr : Pairs w1 (fun i => Z i ∨ i = w.heap.size) pv s.vals := (h.pairs.below hw0).mono (fun i hi => Or.inl hi)
  refine (sw_do H hb hp.lives (hp.good hn2) hp.fine hn hK ((change_cells w x).below hw) (fun k hk => Or.inr hk) (by simp)).mono ?_
  rintro e w' ⟨rfl, k1, k2⟩
  exact ⟨rfl, k1, k2.rws hpr (fun _ h => h)⟩

set_option maxRecDepth 100000 in
theorem stands_do (U : DiskUse At) (H : StoreOk At Own) (h : Stands At Own W dv sv n d s pv Z w) {K M : Nat} (hp : Plain n d s K M) (hn : 4 ≤ n) (hn2 : n ≤ 1026) (hK : K + (2 * hof n + 6) ≤ 100000) (x : Sto.Ch) :
    Calls Tryz.prog 17 #[sv, .slice (some ⟨w.heap.size, 0, none⟩) 1 1] (w.alloc (.cells #[.string (mk x.key), .string (mk x.val), .bool x.gone] 52)) fun e w' =>
      e = .returned (.int .i64 (Sto.doing n d s [x]).1) ∧ Sw At Own W (fun i => Z i ∨ i = w.heap.size) dv sv n (Sto.doing n d s [x]).2.1 (Sto.doing n d s [x]).2.2 w' ∧ Pairs w' (fun i => Z i ∨ i = w.heap.size) pv s.vals :=
  stands_do_at U H h hp hn hn2 hK x (Below.refl _ _)

/-- At the head of a round of StoreKeys. -/
def KeysAt (At : World → (Nat → Prop) → Value → D → Prop) (Own : World → (Nat → Prop) → Value → Value → Nat → Sto.Sr → Prop) (W : World) (dv sv : Value) (m : Nat) (pv : Value) (w : World) : Prop :=
  ∃ d s Z, Stands At Own W dv sv 402 d s pv Z w ∧ Plain 402 d s (3 + m * 406) (1 + m) ∧ Calm d

set_option maxRecDepth 100000 in
theorem dw_old (h : Dw At W Z dv d w) : Dw At W (fun i => Z i ∨ i < W.heap.size) dv d w := by
  obtain ⟨⟨F, h1, h4⟩, h6, h7⟩ := h
  exact ⟨⟨F, h1, fun i hi => ⟨(h4 i hi).1, fun hz => hz.elim (h4 i hi).2 (fun hl => by have := (h4 i hi).1; omega)⟩⟩, h6, fun i hi => hi.elim (h7 i) (fun hl => Nat.lt_of_lt_of_le hl h6.size)⟩

set_option maxRecDepth 100000 in
set_option maxHeartbeats 3200000 in
theorem keys_walk (U : DiskUse At) (H : StoreOk At Own) (A : Option Addr) (len cap : Nat) (cs : List Sto.Ch) (W : World) (hlc : len ≤ cap) (h63 : len ≤ 9223372036854775807) (hlen : cs.length = len) (hin : Changes W (fun i => i < W.heap.size) (.slice A len cap) cs)
    (pre : ByteArray) (hpre : pre.size ≤ 9223372036854775807) :
    Calls Tryz.prog 5 #[.slice A len cap, .string pre] W fun e w' => e = .returned (.bool true) ∧ Below W.heap.size W w' := by
  subst hlen
  have Hin := Lib.hid hin
  have Hpre := Lib.hid hpre
  have hl63 : (cs.length : Int) ≤ 9223372036854775807 := by omega
  obtain ⟨l1, cal1, fin1⟩ := format_lives (n := 402) (by decide) (by decide) 1048576
  have p1 : Hid (Plain 402 (Jnl.format (Dsk.new 402)).2 ⟨⟨1, 0, [], false⟩, [], 1048576, false⟩ 3 1) := ⟨l1, fin1, ⟨(show (0 : Int) ≤ 1048576 by decide), (show (1048576 : Int) ≤ 1048576 by decide)⟩, Nat.zero_le _, Nat.le_refl _⟩
  have Cal := Lib.hid cal1
  have C0 := Lib.hid (dw_new U 402 W (by decide) (by decide))
  have C1 : Hid (∀ w p, Dw At W (fun _ => False) (.pointer (some p)) (Dsk.new 402) w → Calls Tryz.prog 8 #[.pointer (some p)] w fun e w' => e = .returned (.int .i64 0) ∧ Dw At W (fun _ => False) (.pointer (some p)) (Jnl.format (Dsk.new 402)).2 w' ∧ SameZ (fun _ => False) w w') :=
    Lib.hid (fun W p h => store_format U H (by decide) (by decide) h)
  have C1b : Hid (∀ w p, Dw At W (fun _ => False) (.pointer (some p)) (Jnl.format (Dsk.new 402)).2 w → Calls Tryz.prog 9 #[] w fun e w' => e = .returned (.bool true) ∧ Dw At W (fun _ => False) (.pointer (some p)) (Jnl.format (Dsk.new 402)).2 w') :=
    Lib.hid (fun w p h => (sto_awake U H w).mono (by rintro e w' ⟨rfl, k⟩; exact ⟨rfl, (h.below U k).1⟩))
  have C2 : Hid (∀ w p, Dw At W (fun _ => False) (.pointer (some p)) (Jnl.format (Dsk.new 402)).2 w → Calls Tryz.prog 10 #[.pointer (some p), .int .i64 1048576] w fun e w' => ∃ q, e = .returned (.tuple #[.pointer (some q), .int .i64 0]) ∧ KeysAt At Own W (.pointer (some p)) (.pointer (some q)) 0 (.slice none 0 0) w') :=
    Lib.hid (fun w p h => by
      refine (dw_store U H (dw_old h) l1 fin1 (by decide) (by decide) (by decide) (by decide)).mono ?_
      rintro e w' ⟨q, rfl, k1, -⟩
      exact ⟨q, rfl, _, _, _, ⟨k1, fun i hi => Or.inr hi, Rws.none _ _ _⟩, p1.out, Cal.out⟩)
  clear l1 cal1 fin1 p1 Cal
  generalize (Jnl.format (Dsk.new 402)).2 = d1 at *
  go_enter Tryz.func5, Tryz.ntmps5
  go_wp2_with fail
  refine C0.out.mono ?_
  rintro e w1 ⟨p, rfl, h1⟩
  have H1 := Lib.hid h1
  clear h1
  go_wp2_with fail
  refine (C1.out _ _ H1.out).mono ?_
  rintro e w2 ⟨rfl, h2, -⟩
  have H2 := Lib.hid h2
  clear h2 H1
  go_wp2_with fail
  refine (C1b.out _ _ H2.out).mono ?_
  rintro e w2b ⟨rfl, h2⟩
  have H2b := Lib.hid h2
  clear h2 H2
  go_wp2_with fail
  refine (C2.out _ _ H2b.out).mono ?_
  rintro e w3 ⟨q, rfl, h3⟩
  have H3 := Lib.hid h3
  clear h3 H2b C0 C1 C1b C2
  go_wp2_with fail
  go_loopw [9, 10] (fun pv i wr => ∃ m : Nat, m ≤ cs.length ∧ m ≤ 30 ∧ i = .int .i64 (m : Int) ∧ KeysAt At Own W (.pointer (some p)) (.pointer (some q)) m pv wr) (fun _ i _ => cs.length - (intOf i).toNat)
  case atStart => exact ⟨0, Nat.zero_le _, Nat.zero_le _, rfl, H3.out⟩
  case round =>
    obtain ⟨m, hm, hm30, rfl, hk⟩ := hrel
    clear H3
    have HK := Lib.hid hk
    have hm0 : (0 : Int) ≤ (m : Int) := by omega
    have hm3 : (m : Int) ≤ 30 := by omega
    clear hk
    by_cases hgo : m < cs.length ∧ m < 30
    · obtain ⟨hlt, hlt30⟩ := hgo
      have hm1 : (m : Int) < (cs.length : Int) := by omega
      have hm2 : (m : Int) < 30 := by omega
      obtain ⟨b, o, cap', e, -, -, hb⟩ := Hin.out.shape (by omega)
      injection e with e1 e2 e3
      subst e1 e3
      obtain ⟨x, hx⟩ : ∃ x, cs[m]? = some x := ⟨_, List.getElem?_eq_getElem hlt⟩
      have hbel : Below W.heap.size W wr := by obtain ⟨d, s, Z, k, -, -⟩ := HK.out; exact k.sw.bel
      obtain ⟨c0, c1, c2⟩ := Changes.at (Hin.out.below hbel) hx
      have hcut : Hid (∀ w', Below W.heap.size W w' → Changes w' (fun i => i < W.heap.size) (.slice (some ⟨b, o + m * 3, none⟩) 1 (cap - m)) [x]) := Lib.hid (fun w' hw' => Changes.piece (Hin.out.below hw') hlc hx)
      by_cases hS : x.val.length < 200
      · have hS1 : decide (((mk x.val).size : Int) < 200) = true := by rw [mk_len]; simp; omega
        have hS2 : (((mk x.val).size : Int) < 200) := by rw [mk_len]; omega
        obtain ⟨d, s, Z, hst, hpl, hcal⟩ := HK.out
        have hdo := stands_do U H hst hpl (by decide) (by decide) (by have e : hof 402 = 200 := rfl; omega) x
        have hcases := hpl.doing (cs := [x]) hcal (by decide) (by decide) (by omega)
        have hNext : Hid (∀ (s' : Sto.Sr) (d' : D), s'.vals = Sto.after s.vals [x] → ∀ a, Sw At Own W (fun i => Z i ∨ i = wr.heap.size) (.pointer (some p)) (.pointer (some q)) 402 d' s' a → Pairs a (fun i => Z i ∨ i = wr.heap.size) u9 s.vals →
            Calls Tryz.prog 14 #[u9, .slice (some ⟨b, o + m * 3, none⟩) 1 (cap - m)] a fun e w' => ∃ pv', e = .returned pv' ∧ Vals a (fun i => Z i ∨ i = wr.heap.size) s'.vals pv' w') := Lib.hid (fun s' d' hv a ha hpa => by
          rw [hv]
          have hfew := (hpl.good (by decide)).few
          exact after_any hpa (hcut.out a ha.bel) (by simp; omega))
        have Hst := Lib.hid hst
        have Hpl := Lib.hid hpl
        have Hcal := Lib.hid hcal
        have Hdo := Lib.hid hdo
        clear hx hst hpl hcal hdo HK hbel hS
        rcases hcases with ⟨k1, k2⟩ | ⟨k1, k2, k3, k4, k5⟩
        · have hb1 : ((Sto.doing 402 d s [x]).1 == 0) = false := by rw [beq_eq_false_iff_ne]; exact k1
          have hd1 : (Sto.doing 402 d s [x]).2.1 = d := by rw [k2]
          have hd2 : (Sto.doing 402 d s [x]).2.2 = s := by rw [k2]
          rw [hd1, hd2] at Hdo
          clear k1 k2 hd1 hd2
          generalize (Sto.doing 402 d s [x]).1 = r at *
          generalize mk x.key = x1 at *
          generalize mk x.val = x2 at *
          generalize x.gone = x3 at *
          go_wp2_with (go_at_call 17; refine (Hdo.out).mono ?_; rintro e w4 ⟨rfl, h4, h5⟩)
          refine ⟨⟨m + 1, by omega, by omega, rfl, d, s, _, ⟨h4, fun i hi => Or.inl (Hst.out.old i hi), h5⟩, Hpl.out.mono (by omega) (by omega), Hcal.out⟩, ?_⟩
          show cs.length - ((m : Int) + 1).toNat < cs.length - (m : Int).toNat
          omega
        · have hb1 : ((Sto.doing 402 d s [x]).1 == 0) = true := by rw [k1]; rfl
          have K2 := Lib.hid k2
          have K3 := Lib.hid k3
          have K4 := Lib.hid k4
          clear k1 k2 k3 k4 k5
          have hs3 : (m : Int) + 1 ≤ (cs.length : Int) := by omega
          have hcapm : (m : Int) + 1 ≤ (cap : Int) := by omega
          generalize (Sto.doing 402 d s [x]).1 = r at *
          generalize (Sto.doing 402 d s [x]).2.1 = d2 at *
          generalize (Sto.doing 402 d s [x]).2.2 = s2 at *
          generalize mk x.key = x1 at *
          generalize mk x.val = x2 at *
          generalize hx3 : x.gone = x3 at *
          go_wp2_with (first
            | (go_at_call 17; refine (Hdo.out).mono ?_; rintro e w4 ⟨rfl, h4, h5⟩)
            | (go_at_call 14; refine (hNext.out s2 d2 K4.out w4 h4 h5).mono ?_; rintro e w5 ⟨pv2, rfl, h6⟩))
          refine ⟨⟨m + 1, by omega, by omega, rfl, d2, s2, _, Stands.next U H h4 (fun i hi => Or.inl (Hst.out.old i hi)) h6, K2.out.mono (by have e : hof 402 = 200 := rfl; omega) (by omega), K3.out⟩, ?_⟩
          show cs.length - ((m : Int) + 1).toNat < cs.length - (m : Int).toNat
          omega
      · have hS1 : decide (((mk x.val).size : Int) < 200) = false := by rw [mk_len]; simp; omega
        have hS2 : ¬ (((mk x.val).size : Int) < 200) := by rw [mk_len]; omega
        clear hx hS hbel hcut
        generalize mk x.key = x1 at *
        generalize mk x.val = x2 at *
        generalize x.gone = x3 at *
        go_wp2_with fail
        refine ⟨⟨m + 1, by omega, by omega, rfl, ?_⟩, ?_⟩
        · obtain ⟨d, s, Z, k1, k2, k3⟩ := HK.out
          exact ⟨d, s, Z, k1, k2.mono (by omega) (by omega), k3⟩
        · show cs.length - ((m : Int) + 1).toNat < cs.length - (m : Int).toNat
          omega
    · obtain ⟨d, s, Z, hst, hpl, hcal⟩ := HK.out
      have hg := hpl.good (by decide)
      have hfl : Hid ((Sto.keys s.vals pre.data.toList).length ≤ 1000000) := Lib.hid (by have := keys_len s.vals pre.data.toList; have := hg.few; omega)
      have E1 := Lib.hid (hst.same U H hg)
      have E2 : Hid (∀ a, Stands At Own W (.pointer (some p)) (.pointer (some q)) 402 d s u9 Z a → Calls Tryz.prog 24 #[.pointer (some q), .string pre] a fun e w' => (∃ v, e = .returned v ∧ Cells w' (NewIn a w') v (texts (Sto.keys s.vals pre.data.toList))) ∧ Stands At Own W (.pointer (some p)) (.pointer (some q)) 402 d s u9 Z w') := Lib.hid (fun a ha => by
        refine (sw_keys H ha.sw hg pre Hpre.out).mono ?_
        rintro e w' ⟨h1, h2, h3⟩
        exact ⟨h1, h2, ha.old, h3.rws ha.pairs (fun _ h => h)⟩)
      have E3 : Hid (∀ a, Stands At Own W (.pointer (some p)) (.pointer (some q)) 402 d s u9 Z a → Calls Tryz.prog 25 #[u9, .string pre] a fun e w' => (∃ v, e = .returned v ∧ Cells w' (NewIn a w') v (texts (Sto.keys s.vals pre.data.toList))) ∧ Below a.heap.size a w' ∧ Below W.heap.size W w') := Lib.hid (fun a ha => by
        refine (ref_keys ha.pairs (by have := hg.few; omega) pre Hpre.out).mono ?_
        rintro e w' ⟨v, rfl, h1, h2⟩
        exact ⟨⟨v, rfl, h1⟩, h2, ha.sw.bel.trans (h2.mono ha.sw.bel.size)⟩)
      have hcase : (¬ (m : Int) < (cs.length : Int)) ∨ ((m : Int) < (cs.length : Int) ∧ ¬ (m : Int) < 30) := by omega
      clear hst hpl hcal hg HK hgo
      rcases hcase with hq | ⟨hq, hq2⟩
      all_goals
        go_wp2_with (first
          | (go_at_call 19; refine (E1.out).mono ?_; rintro e w4 ⟨rfl, h4, -⟩)
          | (go_at_call 24; refine (E2.out _ h4).mono ?_; rintro e w5 ⟨⟨v5, rfl, k5⟩, h5⟩)
          | (go_at_call 25; refine (E3.out _ h5).mono ?_; rintro e w6 ⟨⟨v6, rfl, k6⟩, h6, h7⟩; have k5' := k5.below h6)
          | (go_at_call 23; refine (texts_same k5' k6 hfl.out).mono ?_; rintro e w7 ⟨rfl, h8⟩; have h9 := h7.trans (h8.mono h7.size)))
        go_ret
        exact ⟨rfl, h9⟩
end
end Go.Proofs.YtbfjageaheijbaaGreat
/- The document's own answer of layer 3: a text filled up. -/
namespace Go.Proofs.YtbfjageaheijbaaGreat
open Go.RowKit

def padded (s : ByteArray) (k : Nat) : ByteArray := ⟨s.data ++ Array.replicate k 0⟩

set_option maxRecDepth 100000 in
theorem padded_size (s : ByteArray) (k : Nat) : (padded s k).size = s.size + k := by
  show (s.data ++ Array.replicate k 0).size = _
  rw [Array.size_append, Array.size_replicate]; rfl

set_option maxRecDepth 100000 in
theorem padded_more (s : ByteArray) (k : Nat) : padded s k ++ ⟨#[0]⟩ = padded s (k + 1) := by
  apply ByteArray.ext
  rw [ByteArray.data_append]
  show (s.data ++ Array.replicate k 0) ++ #[0] = s.data ++ Array.replicate (k + 1) 0
  rw [Array.append_assoc, Array.replicate_succ]
  rfl

def roomOf : Value → Nat
  | .string b => 64 - b.size
  | _ => 0

end Go.Proofs.YtbfjageaheijbaaGreat
/- What the disk's texts share: what a call may do, the numbers that a slice holds. -/
namespace Go.Proofs.YtbfjageaheijbaaGreat
open Go.RowKit Dsk

/-- The numbers that a slice of ints may hold. -/
def Ints64 (ks : List Int) : Prop := (∀ x ∈ ks, -9223372036854775808 ≤ x ∧ x ≤ 9223372036854775807) ∧ ks.length ≤ 9223372036854775807

def New (w w' : World) (k : Nat) : Prop := w.heap.size ≤ k ∧ k < w'.heap.size

/-- What a call on a disk may do: the disk's own blocks, and new ones. -/
def Does (At : World → (Nat → Prop) → Value → D → Prop) (w : World) (F : Nat → Prop) (v : Value) (d : D) (w' : World) : Prop := At w' (Grow F w w') v d ∧ Kept F w w'

set_option maxRecDepth 100000 in
theorem intInfo : (Tryz.prog.info? 3).map (fun i => (i.zero, i.size, i.bytes)) = some (some (.int .i64 0), 1, 8) := by kernel_rfl

def nats (l : List Nat) : List Value := l.map fun (n : Nat) => Value.int .i64 (n : Int)

/-- The call's own slice holds these numbers. -/
def NatsAt (w : World) (out : List Nat) (v : Value) (wr : World) : Prop := wr.ownsRow w.heap.size 3 1 v out.length (nats out) ∧ Below w.heap.size w wr

set_option maxRecDepth 100000 in
theorem nats_start (w : World) : NatsAt w [] (.slice none 0 0) w := ⟨World.ownsRow_nil _ _ _ _, Below.refl _ _⟩

set_option maxRecDepth 100000 in
theorem own_from_ref {w : World} {base t size n : Nat} {v : Value} {xs : List Value} (h : w.ownsRow base t size v n xs) : ∀ k, v.ownBlock = some k → base ≤ k := fun k hk => (h.lt k hk).1

set_option maxRecDepth 100000 in
theorem nats_more {w wr w2 : World} {out : List Nat} {v v' : Value} {o : Obj} {x : Nat} (h : NatsAt w out v wr) (hown : w2.ownsRow w.heap.size 3 1 v' (out.length + 1) (nats out ++ [.int .i64 (x : Int)])) (hg : (wr.alloc o).grownBy w2 v.ownBlock) :
    NatsAt w (out ++ [x]) v' w2 := by
  obtain ⟨h1, h2⟩ := h
  refine ⟨?_, (h2.alloc h2.size o).grown hg (by have := h2.size; simp; omega) (fun k hk => own_from_ref h1 k hk)⟩
  rw [List.length_append]
  simpa [nats] using hown
end Go.Proofs.YtbfjageaheijbaaGreat
/- Words for the landed disk: sectors as cells, a slice of sectors, a map of slices. -/
set_option linter.unusedSimpArgs false
set_option linter.unusedVariables false
namespace Go.Proofs.YtbfjageaheijbaaGreat
open Go.RowKit Dsk

/-- A sector's cells. -/
def secV (s : ByteArray) : List Value := s.data.toList.map fun c => Value.int .u8 (c.toNat : Int)
/-- The cells of sectors, one behind the other. -/
def secs (L : List ByteArray) : List Value := L.flatMap secV
def All64 (L : List ByteArray) : Prop := ∀ s ∈ L, s.size = 64

set_option maxRecDepth 100000 in
theorem secV_len (s : ByteArray) : (secV s).length = s.size := by unfold secV; rw [List.length_map]; rfl
set_option maxRecDepth 100000 in
theorem secV_one (s : ByteArray) : ∀ v ∈ secV s, v.oneCell' = true := fun v hv => by
  obtain ⟨c, _, rfl⟩ := List.mem_map.1 hv
  rfl
set_option maxRecDepth 100000 in
theorem secs_one (L : List ByteArray) : ∀ v ∈ secs L, v.oneCell' = true := fun v hv => by
  obtain ⟨s, _, hs⟩ := List.mem_flatMap.1 hv
  exact secV_one s v hs

set_option maxRecDepth 100000 in
theorem secs_len {L : List ByteArray} (h : All64 L) : (secs L).length = L.length * 64 := by
  induction L with
  | nil => rfl
  | cons s L ih =>
    have h1 := ih (fun x hx => h x (by simp [hx]))
    have h2 : (secV s).length = 64 := by rw [secV_len]; exact h s (by simp)
    show (secV s ++ secs L).length = _
    rw [List.length_append, h1, h2, List.length_cons]
    omega

set_option maxRecDepth 100000 in
theorem secs_append (L M : List ByteArray) : secs (L ++ M) = secs L ++ secs M := by simp [secs]

set_option maxRecDepth 100000 in
theorem secs_get {L : List ByteArray} (h : All64 L) : ∀ (i : Nat) (s : ByteArray), L[i]? = some s → ∀ j, j < 64 → (secs L)[i * 64 + j]? = (secV s)[j]? := by
  induction L with
  | nil => intro i s hs; cases hs
  | cons x L ih =>
    intro i s hs j hj
    have h2 : (secV x).length = 64 := by rw [secV_len]; exact h x (by simp)
    show (secV x ++ secs L)[i * 64 + j]? = _
    cases i with
    | zero =>
      rw [Nat.zero_mul, Nat.zero_add, List.getElem?_append_left (by omega)]
      cases hs; rfl
    | succ i =>
      rw [List.getElem?_append_right (by omega), h2, show (i + 1) * 64 + j - 64 = i * 64 + j by omega]
      exact ih (fun y hy => h y (by simp [hy])) i s hs j hj

set_option maxRecDepth 100000 in
theorem all64_set {L : List ByteArray} (h : All64 L) (i : Nat) {s : ByteArray} (hs : s.size = 64) : All64 (L.set i s) := fun x hx => by
  rcases List.mem_or_eq_of_mem_set hx with hx | hx
  · exact h x hx
  · rw [hx]; exact hs

set_option maxRecDepth 100000 in
theorem secV_inj {s t : ByteArray} (h : secV s = secV t) : s = t := by
  apply ByteArray.ext
  apply Array.ext'
  refine (List.map_inj_right (fun a b hab => ?_)).1 h
  have : (a.toNat : Int) = (b.toNat : Int) := by injection hab
  apply UInt8.toNat_inj.1
  omega

/-- The slice value v is L, out of its own row. -/
def OwnS (w : World) (v : Value) (L : List ByteArray) : Prop := w.ownsRow 0 93 64 v L.length (secs L) ∧ All64 L

section
variable {w w' : World} {v : Value} {L : List ByteArray}

set_option maxRecDepth 100000 in
theorem OwnS.nil (w : World) : OwnS w (.slice none 0 0) [] := ⟨World.ownsRow_nil _ _ _ _, fun _ h => by cases h⟩

set_option maxRecDepth 100000 in
theorem OwnS.form (h : OwnS w v L) (hp : 0 < L.length) : ∃ g cap, v = .slice (some ⟨g, 0, none⟩) L.length cap ∧ g < w.heap.size := by
  obtain ⟨g, cap, e, _, hl⟩ := h.1.form hp
  exact ⟨g, cap, e, hl⟩

set_option maxRecDepth 100000 in
theorem OwnS.any (h : OwnS w v L) : ∃ A cap, v = .slice A L.length cap := by
  rcases h.1.2 with ⟨e, e2⟩ | ⟨g, cap, cur, e, _⟩
  · exact ⟨none, 0, by rw [e, e2]⟩
  · exact ⟨_, cap, e⟩

set_option maxRecDepth 100000 in
theorem OwnS.range {g cap : Nat} (h : OwnS w (.slice (some ⟨g, 0, none⟩) L.length cap) L) {i : Nat} {s : ByteArray} (hs : L[i]? = some s) : w.rangeAt g (i * 64) (secV s) := fun j u hu => by
  have hi := (List.getElem?_eq_some_iff.1 hs).1
  have hl : (secV s).length = 64 := by rw [secV_len]; exact h.2 s (List.mem_of_getElem? hs)
  have hj : j < 64 := by have := (List.getElem?_eq_some_iff.1 hu).1; omega
  rw [h.1.cellAt (i * 64 + j) (by omega), secs_get h.2 i s hs j hj, hu]

set_option maxRecDepth 100000 in
theorem OwnS.same {g n cap : Nat} (h : OwnS w (.slice (some ⟨g, 0, none⟩) n cap) L) (e : w'.heap[g]? = w.heap[g]?) : OwnS w' (.slice (some ⟨g, 0, none⟩) n cap) L := by
  obtain ⟨⟨h1, h2⟩, h3⟩ := h
  refine ⟨⟨h1, ?_⟩, h3⟩
  rcases h2 with h2 | ⟨g', cap', cur, e1, h4, h5, r⟩
  · exact .inl h2
  · simp only [Value.slice.injEq, Option.some.injEq, Addr.mk.injEq, and_true, true_and] at e1
    obtain ⟨rfl, rfl, rfl⟩ := e1
    exact .inr ⟨g, cap, cur, rfl, h4, e.trans h5, r⟩

set_option maxRecDepth 100000 in
theorem OwnS.kept {F : Nat → Prop} (h : OwnS w v L) (k : Kept F w w') (hd : ∀ g, v.ownBlock = some g → ¬ F g) : OwnS w' v L := by
  obtain ⟨⟨h1, h2⟩, h3⟩ := h
  refine ⟨⟨h1, ?_⟩, h3⟩
  rcases h2 with h2 | ⟨g, cap, cur, rfl, h4, h5, r⟩
  · exact .inl h2
  · exact .inr ⟨g, cap, cur, rfl, h4, (k.block g (lt_of_block h5) (hd g rfl)).trans h5, r⟩

set_option maxRecDepth 100000 in
theorem heap_setCells (g : Nat) (t : TypeId) : ∀ (vs : List Value) (o : Nat) (w : World) (cur : Array Value), w.heap[g]? = some (.cells cur t (0, 0)) → ∃ cur', (w.setCells g o vs).heap[g]? = some (.cells cur' t (0, 0)) ∧ cur'.size = cur.size
  | [], _, _, cur, h => ⟨cur, h, rfl⟩
  | v :: r, o, w, cur, h => by
    obtain ⟨cur', h1, h2⟩ := heap_setCells g t r (o + 1) (w.setCell ⟨g, o, none⟩ v) (cur.setIfInBounds o v) (heap_setCell_same w g o cur t v h)
    exact ⟨cur', h1, h2.trans (by simp)⟩

set_option maxRecDepth 100000 in
theorem grown_setCells (g : Nat) : ∀ (vs : List Value) (o : Nat) (w : World), w.grownBy (w.setCells g o vs) (some g)
  | [], _, _ => gb_refl _ _
  | v :: r, o, _ => gb_trans (gb_store (gb_refl _ _) o v) (grown_setCells g r (o + 1) _)

set_option maxRecDepth 100000 in
theorem OwnS.there {g cap : Nat} (h : OwnS w (.slice (some ⟨g, 0, none⟩) L.length cap) L) {i : Nat} (hi : i < L.length) : w.there g (i * 64) 64 := fun j hj => by
  refine ⟨?_, h.1.frozenAt _⟩
  rw [h.1.cellAt (i * 64 + j) (by omega), List.getElem?_eq_getElem (by rw [secs_len h.2]; omega)]
  rfl

set_option maxRecDepth 100000 in
/-- A sector is stored. -/
theorem OwnS.store {g cap : Nat} (h : OwnS w (.slice (some ⟨g, 0, none⟩) L.length cap) L) {i : Nat} (hi : i < L.length) {s : ByteArray} (hs : s.size = 64) :
    OwnS (w.setCells g (i * 64) (secV s)) (.slice (some ⟨g, 0, none⟩) L.length cap) (L.set i s) := by
  have ht := h.there hi
  have hsl : (secV s).length = 64 := by rw [secV_len]; exact hs
  have h64 := all64_set h.2 i hs
  have hcell : ∀ j, j < L.length * 64 → (w.setCells g (i * 64) (secV s)).cell? ⟨g, j, none⟩ = (secs (L.set i s))[j]? := fun j hj => by
    have hq : j / 64 < L.length := by omega
    have hj2 : j = j / 64 * 64 + j % 64 := by omega
    by_cases hji : j / 64 = i
    · have hsi : (L.set i s)[i]? = some s := by rw [List.getElem?_set_self hi]
      rw [hj2, hji, secs_get h64 i s hsi _ (by omega)]
      rw [World.cell?_setCells_in g (secV s) (i * 64) w (fun k hk => (ht k (by omega)).1) (j % 64) (by omega)]
      rw [List.getElem?_eq_getElem (by omega)]
    · obtain ⟨x, hx⟩ : ∃ x, L[j / 64]? = some x := ⟨_, List.getElem?_eq_getElem hq⟩
      have hx2 : (L.set i s)[j / 64]? = some x := by rw [List.getElem?_set_ne (fun e => hji e.symm)]; exact hx
      rw [World.cell?_setCells_out g (secV s) (i * 64) w ⟨g, j, none⟩ (fun _ _ => by show j < i * 64 ∨ i * 64 + _ ≤ j; omega), h.1.cellAt j hj, hj2]
      rw [secs_get h64 _ x hx2 _ (by omega), secs_get h.2 _ x hx _ (by omega)]
  obtain ⟨⟨h1, h2⟩, h3⟩ := h
  refine ⟨⟨?_, ?_⟩, h64⟩
  · rw [secs_len h64, List.length_set]
  · rw [List.length_set]
    rcases h2 with ⟨h2, _⟩ | ⟨g', cap', cur, e1, h4, h5, h6, h7, h8, h9⟩
    · cases h2
    · simp only [Value.slice.injEq, Option.some.injEq, Addr.mk.injEq, and_true, true_and] at e1
      obtain ⟨rfl, rfl⟩ := e1
      obtain ⟨cur', h10, h11⟩ := heap_setCells g _ (secV s) (i * 64) w cur h5
      refine .inr ⟨g, cap, cur', rfl, h4, h10, h6, h7, by rw [h11]; exact h8, ?_⟩
      have hle : L.length * 64 ≤ cap * 64 := Nat.mul_le_mul_right _ h6
      apply List.ext_getElem?
      intro j
      rw [List.getElem?_take]
      by_cases hj : j < L.length * 64
      · rw [if_pos hj, ← hcell j hj, cell_of_row _ g j cur' _ (0, 0) h10, Array.getElem?_toList]
      · rw [if_neg hj, List.getElem?_eq_none (by rw [secs_len h64, List.length_set]; omega)]
end

/-! ### A map whose elements are whatever values -/
def rawElem (v : Value) : Option (DataW Value × List MemPlace) := some (.held v, [])

set_option maxRecDepth 100000 in
theorem sectorsZero (w : World) : (zeroValue 70).run Tryz.prog w = .ok (.slice none 0 0) w := by kernel_rfl

def key (k : Nat) : Lit := .int .i64 (k : Int)
set_option maxRecDepth 100000 in
theorem key_wf {k : Nat} (h : k ≤ 1000000) : (Lit.int .i64 (k : Int)).wf = true := by
  have : (k : Int) ≤ 1000000 := by omega
  simp only [Lit.wf, IntKind.min, IntKind.max, Bool.and_eq_true]
  constructor <;> simp [IntKind.signed, IntKind.bits] <;> omega
set_option maxRecDepth 100000 in
theorem key_of {k : Nat} (h : k ≤ 1000000) : keyOf Tryz.prog 3 (.int .i64 (k : Int)) = some (key k) := Go.Maps.keyOf_int_mk Tryz.underlying3 (key_wf h)
set_option maxRecDepth 100000 in
theorem key_inj {j k : Nat} (h : key j = key k) : j = k := by
  unfold key at h
  injection h with _ h
  omega
set_option maxRecDepth 100000 in
theorem intKeyed : Go.Maps.Keyed Tryz.prog 3 := Go.Maps.int_keyed Tryz.underlying3
end Go.Proofs.YtbfjageaheijbaaGreat
