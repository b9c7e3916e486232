/- VecAdds out of the contracts. -/
import Derived.Test.YtlgaljlbjbfdgaaVecAwk
import Derived.Test.YtlgaljlbjbfdgaaVecRef
import Derived.Test.YtlgaljlbjbfdgaaVecRfo
import Derived.Test.YtlgaljlbjbfdgaaVecEq
set_option linter.unusedSimpArgs false
set_option linter.unusedVariables false
namespace Go.Proofs.Ytlgaljlbjbfdgaa
open Go.RowKit Go.Sort

/-- A version in a block of its own. -/
def XRow (w : World) (b : Nat) (x : Ver.V) : Prop := Row w b 25 #[.int .i64 x.by_, .int .i64 x.n]
set_option maxRecDepth 100000 in
theorem XRow.inHeap {w : World} {b : Nat} {x : Ver.V} (h : XRow w b x) : b < w.heap.size := Row.inHeap h
set_option maxRecDepth 100000 in
theorem XRow.kept {w w' : World} {b : Nat} {x : Ver.V} {F : Nat → Prop} (h : XRow w b x) (k : Kept F w w') (hn : ¬ F b) : XRow w' b x := Row.kept h k hn
set_option maxRecDepth 100000 in
theorem XRow.inB {w w' : World} {b : Nat} {x : Ver.V} (h : XRow w b x) (k : InB w w') : XRow w' b x := Row.below h k.below (Row.inHeap h)
set_option maxRecDepth 100000 in
theorem XRow.two {w : World} {b : Nat} {x : Ver.V} (h : XRow w b x) : w.cell? ⟨b, 0, none⟩ = some (.int .i64 x.by_) ∧ w.cell? ⟨b, 1, none⟩ = some (.int .i64 x.n) := ⟨Row.at h 0, Row.at h 1⟩
set_option maxRecDepth 100000 in
theorem VRow.kept {w w' : World} {b : Nat} {v : List Int} {F : Nat → Prop} (h : VRow w b v) (k : Kept F w w') (hn : ¬ F b) : VRow w' b v := ⟨h.1.kept k hn, h.2⟩
set_option maxRecDepth 100000 in
theorem InB.kept {a w w' : World} {b : Nat} (h : InB a w) (k : Kept (fun i => i = b) w w') (hb : a.heap.size ≤ b) : InB a w' := Below.trans h (k.below h.below.size (fun i e => by omega))
set_option maxRecDepth 100000 in
theorem Kept.setRow (w : World) (b : Nat) (cs : Array Value) : Kept (fun i => i = b) w (w.setRow b cs) :=
  ⟨rfl, rfl, rfl, by show w.heap.size ≤ (w.heap.modify b _).size; simp, fun k _ hn => by
    show (w.heap.modify b _)[k]? = _
    rw [Array.getElem?_modify, if_neg (fun e => hn e.symm)]⟩

set_option maxRecDepth 100000 in
/-- A new version in a region that draws; one that is stored. -/
theorem step_xalloc {ops : Array Oper} {o : Oper} {a : Act} {w : World} {K : Act → World → Prop} {Q : Exit → Act → World → Prop} {E : Prop} (hgd : o.guard = none) (ho : o.op = .alloc 25)
    (h : ∀ (g : Nat) (w' : World), w.heap.size = g → XRow w' g ⟨0, 0⟩ → Laid w w' → K (a.put o.dst (.pointer (some ⟨g, 0, none⟩))) w') : if Region.wanted o (yielded ops a.tmps) = true then Oper.wp Try.prog o a w K Q else E := by
  rw [if_pos (by simp [Region.wanted, hgd])]
  have h1 := h w.heap.size (w.alloc (.cells #[.int .i64 0, .int .i64 0] 25)) rfl (Row.made w _ _) (Laid.new w _)
  unfold Oper.wp execOp
  simp only [ho]
  go_simp
  exact h1
set_option maxRecDepth 100000 in
theorem step_xstore {ops : Array Oper} {o : Oper} {a : Act} {w : World} {b : Nat} {z x : Ver.V} {K : Act → World → Prop} {Q : Exit → Act → World → Prop} {E : Prop} (p q : Operand) (hgd : o.guard = none) (ho : o.op = .store 25 p q) (hp : a.eval p = .pointer (some ⟨b, 0, none⟩)) (hq : a.eval q = verA x) (h : XRow w b z)
    (k : ∀ w', XRow w' b x → Kept (fun i => i = b) w w' → K (a.put o.dst undef) w') : if Region.wanted o (yielded ops a.tmps) = true then Oper.wp Try.prog o a w K Q else E := by
  rw [if_pos (by simp [Region.wanted, hgd])]
  have h1 := Row.stored (Row.stored h 0 (.int .i64 x.by_)) 1 (.int .i64 x.n)
  simp only [List.setIfInBounds_toArray, List.set_cons_zero, List.set_cons_succ] at h1
  have h2 := k _ h1 (((Kept.refl (fun i => i = b) w).stored (p := ⟨b, 0, none⟩) (Or.inl rfl) (.int .i64 x.by_)).stored (p := ⟨b, 1, none⟩) (Or.inl rfl) (.int .i64 x.n))
  obtain ⟨c0, c1⟩ := h.two
  have f0 := Row.free h 0
  have f1 := Row.free h 1
  unfold Oper.wp execOp
  simp only [ho, hp, hq]
  go_simp
  exact h2
set_option maxRecDepth 100000 in
theorem step_kstore {ops : Array Oper} {o : Oper} {a : Act} {w : World} {b : Nat} {v : List Int} {K : Act → World → Prop} {Q : Exit → Act → World → Prop} {E : Prop} (p q : Operand) (hgd : o.guard = none) (ho : o.op = .store 23 p q) {u : List Int} (hp : a.eval p = .pointer (some ⟨b, 0, none⟩)) (hq : a.eval q = vecA u) (h : VRow w b v) (hu : u.length = 65)
    (k : ∀ w', VRow w' b u → Kept (fun i => i = b) w w' → K (a.put o.dst undef) w') : if Region.wanted o (yielded ops a.tmps) = true then Oper.wp Try.prog o a w K Q else E :=
  step_vstore p q hgd ho hp hq h hu (k _ (h.set u hu) (Kept.setRow w b _))
set_option maxRecDepth 100000 in
/-- A vector among other cells, loaded. -/
theorem exec_vload_at {f : Operand → Value} {op : Oper} {x : Operand} {w : World} {b o : Nat} {v : List Int} (ho : op.op = .load 23 x) (hx : f x = .pointer (some ⟨b, o, none⟩)) (h : w.rangeAt b o (vecL v)) (hv : v.length = 65) : (execOp f op).run Try.prog w = .ok (.value (vecA v)) w := by
  have hl := run_loadAt_mid (P := Try.prog) w b o _ _ _ h Try.underlying23 rfl (by rw [vecL_len, hv]; exact (zero_of_info vecInfo).2)
  unfold execOp
  simp only [ho, hx, Sem.run_bind, hl, Result.andThen_ok]
  rfl

/-- The record's cells. -/
def fourL (s : Value) (u : List Int) (x y : Ver.V) : List Value := s :: (vecL u ++ (verV x ++ verV y))
set_option maxRecDepth 100000 in
theorem four_at {w : World} {b : Nat} {s : Value} {u : List Int} {x y : Ver.V} {t : TypeId} (h : Row w b t (fourL s u x y).toArray) (hu : u.length = 65) :
    w.cell? ⟨b, 0, none⟩ = some s ∧ w.rangeAt b 1 (vecL u) ∧ w.cell? ⟨b, 66, none⟩ = some (.int .i64 x.by_) ∧ w.cell? ⟨b, 67, none⟩ = some (.int .i64 x.n) ∧ w.cell? ⟨b, 68, none⟩ = some (.int .i64 y.by_) ∧ w.cell? ⟨b, 69, none⟩ = some (.int .i64 y.n) := by
  have hl : (vecL u).length = 65 := by rw [vecL_len, hu]
  have key : ∀ k, 66 ≤ k → (fourL s u x y)[k]? = (verV x ++ verV y)[k - 66]? := fun k hk => by
    unfold fourL
    rw [show k = (k - 1) + 1 by omega, List.getElem?_cons_succ, List.getElem?_append_right (by omega), hl]
    congr 1
  refine ⟨by rw [h.at]; rfl, fun j v hv => ?_, ?_, ?_, ?_, ?_⟩
  · have hj : j < 65 := by have := (List.getElem?_eq_some_iff.1 hv).1; omega
    rw [h.at, List.getElem?_toArray]
    unfold fourL
    rw [Nat.add_comm, List.getElem?_cons_succ, List.getElem?_append_left (by omega)]
    exact hv
  · rw [h.at, List.getElem?_toArray, key 66 (by omega)]; rfl
  · rw [h.at, List.getElem?_toArray, key 67 (by omega)]; rfl
  · rw [h.at, List.getElem?_toArray, key 68 (by omega)]; rfl
  · rw [h.at, List.getElem?_toArray, key 69 (by omega)]; rfl

set_option maxRecDepth 100000 in
set_option maxHeartbeats 12800000 in
theorem vadds_walk (Z : VecOk) {w : World} {s : Value} {l : List Ver.V} {u : List Int} (x y : Ver.V) (hu : u.length = 65) (hs : Vrs w (fun i => i < w.heap.size) s l) (hb : ∀ x ∈ l, Ver.Bd x) (hx : Ver.Bd x) (hy : Ver.Bd y) : Calls Try.prog 4 #[.agg (fourL s u x y).toArray] w fun e w' => e = .returned (.bool true) ∧ Below w.heap.size w w' := by
  have mixed : Try.prog.follows .mixedOrders = true := by kernel_rfl
  have hz := vecZero
  obtain ⟨A, cap, rfl, hcap⟩ := hs.parts
  have hla : (Vec.add u x).length = 65 := (Vec.add_plain u x).1
  have AW := Lib.hid (fun W => vec_awake Z W)
  have AD := Lib.hid (fun W => Z.add (w := W) x hu hx)
  have RA := Lib.hid (fun W => ref_vhas W y hla)
  have RU := Lib.hid (fun W => ref_vhas W y hu)
  have RX := Lib.hid (fun W => ref_vright W x)
  have RY := Lib.hid (fun W => ref_vright W y)
  have PA := Lib.hid (fun W => ref_vplain W hla)
  have CO := Lib.hid (fun W => ref_vcovers W hla hu)
  rw [decide_eq_true (Vec.add_plain u x)] at PA
  rw [decide_eq_true (Vec.add_covers u x)] at CO
  have hlt : (l.take 60).length ≤ 60 := List.length_take_le ..
  have OF : Hid (∀ (W : World) (F : Nat → Prop) (s : Value), Vrs W F s (l.take 60) → Calls Try.prog 17 #[s] W fun e w' => e = .returned (vecA (Vec.ofl (l.take 60))) ∧ Laid W w') := Lib.hid (fun W F s h => Z.ofl h (by omega) (fun y hy => hb y (List.mem_of_mem_take hy)))
  have RO : Hid (∀ (W : World) (F : Nat → Prop) (s : Value), Vrs W F s (l.take 60) → Calls Try.prog 20 #[s] W fun e w' => e = .returned (vecA (Vec.ofl (l.take 60))) ∧ Below W.heap.size W w') := Lib.hid (fun W F s h => ref_vof h (by omega))
  have hE : ∀ W, (Op.equalIn 10000 23 (vecA (Vec.ofl (l.take 60))) (vecA (Vec.ofl (l.take 60)))).run Try.prog W = .ok true W := fun W => by
    have := vec_eq (Vec.ofl_plain (l.take 60)).1 (Vec.ofl_plain (l.take 60)).1 W
    rwa [decide_eq_true rfl] at this
  have hcase : ∃ p p' rx ry, p = decide (Vec.Has u y) ∧ p' = decide (Vec.Has (Vec.add u x) y) ∧ rx = decide (Ver.Right x) ∧ ry = decide (Ver.Right y) ∧ ((p = true ∧ p' = true) ∨ (p = false ∧ rx = false ∧ p' = false) ∨ (p = false ∧ rx = true ∧ ry = false ∧ p' = false) ∨ (p = false ∧ rx = true ∧ ry = true ∧ ¬ y.by_ = x.by_ ∧ p' = false) ∨ (p = false ∧ rx = true ∧ ry = true ∧ y.by_ = x.by_ ∧ p' = decide (y.n ≤ x.n))) := by
    refine ⟨_, _, _, _, rfl, rfl, rfl, rfl, ?_⟩
    have e := Vec.has_add u x y
    by_cases h1 : Vec.Has u y
    · exact Or.inl ⟨decide_eq_true h1, decide_eq_true (e.2 (Or.inl h1))⟩
    · by_cases h2 : Ver.Right x
      · by_cases h3 : Ver.Right y
        · by_cases h4 : y.by_ = x.by_
          · refine Or.inr (Or.inr (Or.inr (Or.inr ⟨decide_eq_false h1, decide_eq_true h2, decide_eq_true h3, h4, ?_⟩)))
            rw [decide_eq_decide, e]
            exact ⟨fun h => h.elim (fun h => absurd h h1) (fun h => h.2.2.2), fun h => Or.inr ⟨h2, h3, h4, h⟩⟩
          · refine Or.inr (Or.inr (Or.inr (Or.inl ⟨decide_eq_false h1, decide_eq_true h2, decide_eq_true h3, h4, decide_eq_false (fun h => ?_)⟩)))
            exact (e.1 h).elim h1 (fun h => h4 h.2.2.1)
        · refine Or.inr (Or.inr (Or.inl ⟨decide_eq_false h1, decide_eq_true h2, decide_eq_false h3, decide_eq_false (fun h => ?_)⟩))
          exact (e.1 h).elim h1 (fun h => h3 h.2.1)
      · refine Or.inr (Or.inl ⟨decide_eq_false h1, decide_eq_false h2, decide_eq_false (fun h => ?_)⟩)
        exact (e.1 h).elim h1 (fun h => h2 h.1)
  obtain ⟨p, p', rx, ry, hp, hp', hrx, hry, hcase⟩ := hcase
  rw [← hp] at RU
  rw [← hp'] at RA
  rw [← hrx] at RX
  rw [← hry] at RY
  clear hp hp' hrx hry
  have start : ∃ W, W = w.alloc (.cells (fourL (.slice A l.length cap) u x y).toArray 37) ∧ Row W w.heap.size 37 (fourL (.slice A l.length cap) u x y).toArray ∧ Laid w W := ⟨_, rfl, Row.made w _ _, Laid.new w _⟩
  obtain ⟨W0, hW, r0, hL⟩ := start
  have FC := Lib.hid (fun w' (h : InB W0 w') => four_at (r0.below h.below r0.inHeap) hu)
  have SL := Lib.hid (fun w' (h : InB w w') => hs.below h.below)
  have HL := Lib.hid hL.below
  have LU := Lib.hid hu
  have LA := Lib.hid hla
  have Hcap := Lib.hid hcap
  have Hlt := Lib.hid hlt
  generalize Vec.add u x = AU at *
  generalize Vec.ofl (l.take 60) = O at *
  obtain ⟨x1, x2⟩ := x
  obtain ⟨y1, y2⟩ := y
  simp only at AD RA RU RX RY FC hcase hW
  have HCASE := Lib.hid hcase
  clear hcase hu hs hb hx hy r0 hL hla hlt
  go_enter Try.func4, Try.ntmps4
  go_wp2_with fail
  rw [← hW]
  clear hW
  rename_i KK hKK
  have tail : ∀ (g4 g5 g6 : Nat) (wS : World), InB W0 wS → VRow wS g4 u → XRow wS g5 ⟨x1, x2⟩ → XRow wS g6 ⟨y1, y2⟩ → KK ⟨#[.agg (fourL (.slice A l.length cap) u ⟨x1, x2⟩ ⟨y1, y2⟩).toArray, .pointer (some ⟨w.heap.size, 0, none⟩), .bool false, .slice A l.length cap, .pointer (some ⟨g4, 0, none⟩), .pointer (some ⟨g5, 0, none⟩), .pointer (some ⟨g6, 0, none⟩), undef, undef, .pointer (some ⟨w.heap.size, 0, none⟩), .slice A l.length cap, .pointer (some ⟨w.heap.size, 1, none⟩), vecA u, .pointer (some ⟨w.heap.size, 66, none⟩), verA ⟨x1, x2⟩, .pointer (some ⟨w.heap.size, 68, none⟩), verA ⟨y1, y2⟩, undef, undef, undef, undef, undef, undef, undef, undef, undef, undef, undef, undef, undef, undef, undef, undef, undef, undef, undef, undef, undef, undef, undef, undef, undef, undef, undef, undef, undef, undef, undef, undef, undef, undef, undef, undef, undef, undef, undef, undef, undef, undef, undef, undef, undef, undef, undef, undef, undef, undef, undef, undef, undef, undef, undef, undef, undef], []⟩ wS := by
    intro g4 g5 g6 wS h1 h2 h3 h4
    refine hKK _ _ ?_
    have V4 := Lib.hid h2
    have V5 := Lib.hid h3
    have V6 := Lib.hid h4
    have LS := Lib.hid (HL.out.trans (h1.below.mono HL.out.size))
    clear h1 h2 h3 h4 hKK
    by_cases h60 : 60 < l.length
    · obtain ⟨b, o, cap', e, -, -, hb⟩ := (SL.out w (InB.refl w)).block (by omega)
      injection e with e1 e2 e3
      subst e1 e3
      clear e2
      have g1 : (60 : Int) < (l.length : Int) := by omega
      have g2 : (60 : Int) ≤ (cap : Int) := by have := Hcap.out; omega
      have g3 : 60 ≤ cap := by have := Hcap.out; omega
      have TL := Lib.hid (fun w' (h : InB w w') => (SL.out w' h).take rfl 60 (by omega) cap g3)
      have c0 := V5.out.two.1
      have c1 := V5.out.two.2
      go_wp2_with (refine wpList_vload (by rfl) _ (by rfl) (by rfl) V4.out ?_)
      refine (AD.out _).mono ?_
      rintro e w1 ⟨rfl, h1⟩
      have T1 := Lib.hid (VRow.made w1 Vec.zeros_len)
      have T2 := Lib.hid (T1.out.set AU LA.out)
      have B1 : InB wS w1 := h1.below
      have U4 := Lib.hid (((V4.out.inB B1).alloc (.cells (vecR Vec.zeros) 23)).setElsewhere (c := w1.heap.size) (by have := (V4.out.inB B1).inHeap; omega) (vecR AU))
      have U5 : Hid (XRow _ g5 ⟨x1, x2⟩) := Lib.hid (row_setElsewhere (Row.behindNew (V5.out.inB B1) (.cells (vecR Vec.zeros) 23)) (c := w1.heap.size) (by have := (V5.out.inB B1).inHeap; omega) (vecR AU))
      have U6 : Hid (XRow _ g6 ⟨y1, y2⟩) := Lib.hid (row_setElsewhere (Row.behindNew (V6.out.inB B1) (.cells (vecR Vec.zeros) 23)) (c := w1.heap.size) (by have := (V6.out.inB B1).inHeap; omega) (vecR AU))
      have L2 := Lib.hid (InB.trans (show InB w wS from LS.out) ((((Laid.refl wS).trans h1).alloc (.cells (vecR Vec.zeros) 23)).set (b := w1.heap.size) h1.size (vecR AU)).below)
      clear h1 c0 c1 B1
      go_wp2_with (refine wpList_vstore (by rfl) _ _ (by rfl) (by rfl) (by rfl) T1.out LA.out ?_)
      generalize (w1.alloc (.cells (vecR Vec.zeros) 23)).setRow w1.heap.size (vecR AU) = W2 at *
      generalize w1.heap.size = g7 at *
      have C7 := Lib.hid (fun w' (h : InB W2 w') => T2.out.inB h)
      have C4 := Lib.hid (fun w' (h : InB W2 w') => U4.out.inB h)
      have XC := Lib.hid (fun w' (h : InB W2 w') => And.intro (U5.out.inB h).two (U6.out.inB h).two)
      have hcase := HCASE.out
      rcases hcase with ⟨rfl, rfl⟩ | ⟨rfl, rfl, rfl⟩ | ⟨rfl, rfl, rfl, rfl⟩ | ⟨rfl, rfl, rfl, hne, rfl⟩ | ⟨rfl, rfl, rfl, rfl, rfl⟩
      all_goals
        try (have hneb : (y1 == x1) = false := by simpa using hne)
        refine wp_region_below (by assumption) (by kernel_rfl) ?_
        repeat ((first
          | (refine wq_skip (by rfl) ?_)
          | (refine wq_vload (by kernel_rfl) _ (by rfl) (by rfl) C7.out ?_)
          | (refine wq_vload (by kernel_rfl) _ (by rfl) (by rfl) C4.out ?_)
          | (refine wq_take (v := ?_) (by kernel_rfl) (by intro w hSw; have hXC := XC.out w hSw; go_simp; first | done | with_reducible rfl) ?_)
          | (refine wq_call (by kernel_rfl) ?hent (fun w hSw => inB_laid hSw (RX.out w)) ?_; (case hent => (intro w hSw; go_simp; done)))
          | (refine wq_call (by kernel_rfl) ?hent (fun w hSw => inB_laid hSw (RY.out w)) ?_; (case hent => (intro w hSw; go_simp; done)))
          | (refine wq_call (by kernel_rfl) ?hent (fun w hSw => inB_calls hSw (RA.out w)) ?_; (case hent => (intro w hSw; go_simp; done)))
          | (refine wq_call (by kernel_rfl) ?hent (fun w hSw => inB_calls hSw (RU.out w)) ?_; (case hent => (intro w hSw; go_simp; done)))); (try simp only [Act.put, List.getElem_toArray, List.getElem_cons_zero, List.getElem_cons_succ, List.setIfInBounds_toArray, List.set_cons_zero, List.set_cons_succ]))
        refine wq_nil ?_
        intro wq hq
        have H2 := Lib.hid hq
        clear hq
        go_wp2_with fail
        refine (AW.out _).mono ?_
        rintro e w3 ⟨rfl, h3⟩
        have H3 := Lib.hid (H2.out.trans h3)
        clear h3
        go_wp2_with fail
        refine (OF.out _ _ _ (TL.out _ (L2.out.trans H3.out.below))).mono ?_
        rintro e w4 ⟨rfl, h4⟩
        have H4 := Lib.hid (H3.out.trans h4.below)
        clear h4
        go_wp2_with fail
        refine (RO.out _ _ _ (TL.out _ (L2.out.trans H4.out.below))).mono ?_
        rintro e w5 ⟨rfl, h5⟩
        have H5 := Lib.hid (H4.out.trans h5)
        clear h5
        go_wp2_with (refine wpList_vload (by rfl) _ (by rfl) (by rfl) (C7.out _ H5.out) ?_)
        refine (PA.out _).mono ?_
        rintro e w6 ⟨rfl, h6⟩
        have H6 := Lib.hid (H5.out.trans h6)
        clear h6
        go_wp2_with (first | refine wpList_vload (by rfl) _ (by rfl) (by rfl) (C7.out _ H6.out) ?_ | refine wpList_vload (by rfl) _ (by rfl) (by rfl) (C4.out _ H6.out) ?_)
        refine (CO.out _).mono ?_
        rintro e w7 ⟨rfl, h7⟩
        have H7 := Lib.hid (L2.out.trans (H6.out.trans h7).below).below
        clear h7
        go_wp2_with fail
        go_ret
        exact ⟨rfl, H7.out⟩
    · have g1 : ¬ (60 : Int) < (l.length : Int) := by omega
      have e60 : l.take 60 = l := List.take_of_length_le (by omega)
      have TL := Lib.hid (fun w' (h : InB w w') => show Vrs w' (fun i => i < w.heap.size) (.slice A l.length cap) (l.take 60) from by rw [e60]; exact SL.out w' h)
      clear e60
      have c0 := V5.out.two.1
      have c1 := V5.out.two.2
      go_wp2_with (refine wpList_vload (by rfl) _ (by rfl) (by rfl) V4.out ?_)
      refine (AD.out _).mono ?_
      rintro e w1 ⟨rfl, h1⟩
      have T1 := Lib.hid (VRow.made w1 Vec.zeros_len)
      have T2 := Lib.hid (T1.out.set AU LA.out)
      have B1 : InB wS w1 := h1.below
      have U4 := Lib.hid (((V4.out.inB B1).alloc (.cells (vecR Vec.zeros) 23)).setElsewhere (c := w1.heap.size) (by have := (V4.out.inB B1).inHeap; omega) (vecR AU))
      have U5 : Hid (XRow _ g5 ⟨x1, x2⟩) := Lib.hid (row_setElsewhere (Row.behindNew (V5.out.inB B1) (.cells (vecR Vec.zeros) 23)) (c := w1.heap.size) (by have := (V5.out.inB B1).inHeap; omega) (vecR AU))
      have U6 : Hid (XRow _ g6 ⟨y1, y2⟩) := Lib.hid (row_setElsewhere (Row.behindNew (V6.out.inB B1) (.cells (vecR Vec.zeros) 23)) (c := w1.heap.size) (by have := (V6.out.inB B1).inHeap; omega) (vecR AU))
      have L2 := Lib.hid (InB.trans (show InB w wS from LS.out) ((((Laid.refl wS).trans h1).alloc (.cells (vecR Vec.zeros) 23)).set (b := w1.heap.size) h1.size (vecR AU)).below)
      clear h1 c0 c1 B1
      go_wp2_with (refine wpList_vstore (by rfl) _ _ (by rfl) (by rfl) (by rfl) T1.out LA.out ?_)
      generalize (w1.alloc (.cells (vecR Vec.zeros) 23)).setRow w1.heap.size (vecR AU) = W2 at *
      generalize w1.heap.size = g7 at *
      have C7 := Lib.hid (fun w' (h : InB W2 w') => T2.out.inB h)
      have C4 := Lib.hid (fun w' (h : InB W2 w') => U4.out.inB h)
      have XC := Lib.hid (fun w' (h : InB W2 w') => And.intro (U5.out.inB h).two (U6.out.inB h).two)
      have hcase := HCASE.out
      rcases hcase with ⟨rfl, rfl⟩ | ⟨rfl, rfl, rfl⟩ | ⟨rfl, rfl, rfl, rfl⟩ | ⟨rfl, rfl, rfl, hne, rfl⟩ | ⟨rfl, rfl, rfl, rfl, rfl⟩
      all_goals
        try (have hneb : (y1 == x1) = false := by simpa using hne)
        refine wp_region_below (by assumption) (by kernel_rfl) ?_
        repeat ((first
          | (refine wq_skip (by rfl) ?_)
          | (refine wq_vload (by kernel_rfl) _ (by rfl) (by rfl) C7.out ?_)
          | (refine wq_vload (by kernel_rfl) _ (by rfl) (by rfl) C4.out ?_)
          | (refine wq_take (v := ?_) (by kernel_rfl) (by intro w hSw; have hXC := XC.out w hSw; go_simp; first | done | with_reducible rfl) ?_)
          | (refine wq_call (by kernel_rfl) ?hent (fun w hSw => inB_laid hSw (RX.out w)) ?_; (case hent => (intro w hSw; go_simp; done)))
          | (refine wq_call (by kernel_rfl) ?hent (fun w hSw => inB_laid hSw (RY.out w)) ?_; (case hent => (intro w hSw; go_simp; done)))
          | (refine wq_call (by kernel_rfl) ?hent (fun w hSw => inB_calls hSw (RA.out w)) ?_; (case hent => (intro w hSw; go_simp; done)))
          | (refine wq_call (by kernel_rfl) ?hent (fun w hSw => inB_calls hSw (RU.out w)) ?_; (case hent => (intro w hSw; go_simp; done)))); (try simp only [Act.put, List.getElem_toArray, List.getElem_cons_zero, List.getElem_cons_succ, List.setIfInBounds_toArray, List.set_cons_zero, List.set_cons_succ]))
        refine wq_nil ?_
        intro wq hq
        have H2 := Lib.hid hq
        clear hq
        go_wp2_with fail
        refine (AW.out _).mono ?_
        rintro e w3 ⟨rfl, h3⟩
        have H3 := Lib.hid (H2.out.trans h3)
        clear h3
        go_wp2_with fail
        refine (OF.out _ _ _ (TL.out _ (L2.out.trans H3.out.below))).mono ?_
        rintro e w4 ⟨rfl, h4⟩
        have H4 := Lib.hid (H3.out.trans h4.below)
        clear h4
        go_wp2_with fail
        refine (RO.out _ _ _ (TL.out _ (L2.out.trans H4.out.below))).mono ?_
        rintro e w5 ⟨rfl, h5⟩
        have H5 := Lib.hid (H4.out.trans h5)
        clear h5
        go_wp2_with (refine wpList_vload (by rfl) _ (by rfl) (by rfl) (C7.out _ H5.out) ?_)
        refine (PA.out _).mono ?_
        rintro e w6 ⟨rfl, h6⟩
        have H6 := Lib.hid (H5.out.trans h6)
        clear h6
        go_wp2_with (first | refine wpList_vload (by rfl) _ (by rfl) (by rfl) (C7.out _ H6.out) ?_ | refine wpList_vload (by rfl) _ (by rfl) (by rfl) (C4.out _ H6.out) ?_)
        refine (CO.out _).mono ?_
        rintro e w7 ⟨rfl, h7⟩
        have H7 := Lib.hid (L2.out.trans (H6.out.trans h7).below).below
        clear h7
        go_wp2_with fail
        go_ret
        exact ⟨rfl, H7.out⟩
  have Tail := Lib.hid tail
  clear tail hKK HCASE
  refine wp_region_held_drew (S := (fun w' : World => InB W0 w')) (by kernel_rfl) ((InB.refl W0).drew) (fun hHeld => ?_)
  generalize W0.drew = wd at *
  refine wpAnyH_take (i := 0) (v := ?_) rfl (by kernel_rfl) (by kernel_rfl) (by kernel_rfl) (fun _ _ _ h => h) (Or.inl ⟨by rfl, (by intro w hSw; go_simp; try with_reducible rfl)⟩) (by assumption) ?_
  simp only [Act.put, List.getElem_toArray, List.getElem_cons_zero, List.getElem_cons_succ, List.setIfInBounds_toArray, List.set_cons_zero, List.set_cons_succ]
  refine wpAnyH_take (i := 1) (v := ?_) rfl (by kernel_rfl) (by kernel_rfl) (by kernel_rfl) (fun _ _ _ h => h) (Or.inl ⟨by rfl, (by intro w hSw; have hFC := FC.out _ hSw; go_simp; try with_reducible rfl)⟩) (by assumption) ?_
  simp only [Act.put, List.getElem_toArray, List.getElem_cons_zero, List.getElem_cons_succ, List.setIfInBounds_toArray, List.set_cons_zero, List.set_cons_succ]
  refine wpAnyH_take (i := 2) (v := ?_) rfl (by kernel_rfl) (by kernel_rfl) (by kernel_rfl) (fun _ _ _ h => h) (Or.inl ⟨by rfl, (by intro w hSw; go_simp; try with_reducible rfl)⟩) (by assumption) ?_
  simp only [Act.put, List.getElem_toArray, List.getElem_cons_zero, List.getElem_cons_succ, List.setIfInBounds_toArray, List.set_cons_zero, List.set_cons_succ]
  refine wpAnyH_take (i := 3) (v := vecA u) rfl (by kernel_rfl) (by kernel_rfl) (by kernel_rfl) (fun _ _ _ h => h) (Or.inl ⟨by rfl, (by intro w hSw; exact exec_vload_at (by rfl) (by rfl) (FC.out _ hSw).2.1 LU.out)⟩) (by assumption) ?_
  simp only [Act.put, List.getElem_toArray, List.getElem_cons_zero, List.getElem_cons_succ, List.setIfInBounds_toArray, List.set_cons_zero, List.set_cons_succ]
  refine wpAnyH_take (i := 4) (v := ?_) rfl (by kernel_rfl) (by kernel_rfl) (by kernel_rfl) (fun _ _ _ h => h) (Or.inl ⟨by rfl, (by intro w hSw; go_simp; try with_reducible rfl)⟩) (by assumption) ?_
  simp only [Act.put, List.getElem_toArray, List.getElem_cons_zero, List.getElem_cons_succ, List.setIfInBounds_toArray, List.set_cons_zero, List.set_cons_succ]
  refine wpAnyH_take (i := 5) (v := ?_) rfl (by kernel_rfl) (by kernel_rfl) (by kernel_rfl) (fun _ _ _ h => h) (Or.inl ⟨by rfl, (by intro w hSw; have hFC := FC.out _ hSw; go_simp; try with_reducible rfl)⟩) (by assumption) ?_
  simp only [Act.put, List.getElem_toArray, List.getElem_cons_zero, List.getElem_cons_succ, List.setIfInBounds_toArray, List.set_cons_zero, List.set_cons_succ]
  refine wpAnyH_take (i := 6) (v := ?_) rfl (by kernel_rfl) (by kernel_rfl) (by kernel_rfl) (fun _ _ _ h => h) (Or.inl ⟨by rfl, (by intro w hSw; go_simp; try with_reducible rfl)⟩) (by assumption) ?_
  simp only [Act.put, List.getElem_toArray, List.getElem_cons_zero, List.getElem_cons_succ, List.setIfInBounds_toArray, List.set_cons_zero, List.set_cons_succ]
  refine wpAnyH_take (i := 7) (v := ?_) rfl (by kernel_rfl) (by kernel_rfl) (by kernel_rfl) (fun _ _ _ h => h) (Or.inl ⟨by rfl, (by intro w hSw; have hFC := FC.out _ hSw; go_simp; try with_reducible rfl)⟩) (by assumption) ?_
  simp only [Act.put, List.getElem_toArray, List.getElem_cons_zero, List.getElem_cons_succ, List.setIfInBounds_toArray, List.set_cons_zero, List.set_cons_succ]
  refine wpAnyH_ready (rs := [8, 9, 10]) (by kernel_rfl) (by simp) ?_
  refine (AllReadyH.cons rfl (fun K hK => ?_) (AllReadyH.cons rfl (fun K hK => ?_) (AllReadyH.cons rfl (fun K hK => ?_) AllReadyH.nil)))
  · refine step_valloc rfl (by rfl) ?_
    rintro g4 w101 h7 h8 h9
    have hL := InB.trans hHeld h9.below
    have G4 : Hid (W0.heap.size ≤ g4) := Lib.hid (by have := hHeld.below.size; omega)
    have V4 := Lib.hid h8
    refine hK.out _ _ hL (fun hHeld => ?_)
    simp only [Act.put, List.getElem_toArray, List.getElem_cons_zero, List.getElem_cons_succ, List.setIfInBounds_toArray, List.set_cons_zero, List.set_cons_succ]
    clear hL h7 h8 h9
    clear hK K
    refine wpAnyH_ready (rs := [9, 10]) (by kernel_rfl) (by simp) ?_
    refine (AllReadyH.cons rfl (fun K hK => ?_) (AllReadyH.cons rfl (fun K hK => ?_) AllReadyH.nil))
    · refine step_xalloc rfl (by rfl) ?_
      rintro g5 w102 h7 h8 h9
      have hL := InB.trans hHeld h9.below
      have G5 : Hid (W0.heap.size ≤ g5) := Lib.hid (by have := hHeld.below.size; omega)
      have N45 : Hid (¬ g4 = g5) := Lib.hid (by have := V4.out.inHeap; omega)
      have V4 := Lib.hid (V4.out.inB h9.below)
      have V5 := Lib.hid h8
      refine hK.out _ _ hL (fun hHeld => ?_)
      simp only [Act.put, List.getElem_toArray, List.getElem_cons_zero, List.getElem_cons_succ, List.setIfInBounds_toArray, List.set_cons_zero, List.set_cons_succ]
      clear hL h7 h8 h9
      clear hK K
      refine wpAnyH_ready (rs := [10]) (by kernel_rfl) (by simp) ?_
      refine (AllReadyH.cons rfl (fun K hK => ?_) AllReadyH.nil)
      refine step_xalloc rfl (by rfl) ?_
      rintro g6 w103 h7 h8 h9
      have hL := InB.trans hHeld h9.below
      have G6 : Hid (W0.heap.size ≤ g6) := Lib.hid (by have := hHeld.below.size; omega)
      have N46 : Hid (¬ g4 = g6) := Lib.hid (by have := V4.out.inHeap; omega)
      have N56 : Hid (¬ g5 = g6) := Lib.hid (by have := V5.out.inHeap; omega)
      have V4 := Lib.hid (V4.out.inB h9.below)
      have V5 := Lib.hid (V5.out.inB h9.below)
      have V6 := Lib.hid h8
      refine hK.out _ _ hL (fun hHeld => ?_)
      simp only [Act.put, List.getElem_toArray, List.getElem_cons_zero, List.getElem_cons_succ, List.setIfInBounds_toArray, List.set_cons_zero, List.set_cons_succ]
      clear hL h7 h8 h9
      clear hK K
      refine wpAnyH_take (i := 11) (v := ?_) rfl (by kernel_rfl) (by kernel_rfl) (by kernel_rfl) (fun _ _ _ h => h) (Or.inl ⟨by rfl, (by intro w hSw; go_simp; try with_reducible rfl)⟩) (by assumption) ?_
      simp only [Act.put, List.getElem_toArray, List.getElem_cons_zero, List.getElem_cons_succ, List.setIfInBounds_toArray, List.set_cons_zero, List.set_cons_succ]
      refine wpAnyH_ready (rs := [12]) (by kernel_rfl) (by simp) ?_
      refine (AllReadyH.cons rfl (fun K hK => ?_) AllReadyH.nil)
      refine step_kstore (.tmp 4) (.tmp 12) rfl (by rfl) (by rfl) (by rfl) V4.out LU.out ?_
      rintro w104 h8 h9
      have hL := InB.kept hHeld h9 G4.out
      have V5 := Lib.hid (V5.out.kept h9 (by first | exact N54.out | exact (fun e => N45.out e.symm)))
      have V6 := Lib.hid (V6.out.kept h9 (by first | exact N64.out | exact (fun e => N46.out e.symm)))
      have V4 := Lib.hid h8
      refine hK.out _ _ hL (fun hHeld => ?_)
      clear hL h8 h9
      clear hK K
      refine wpAnyH_ready (rs := [13]) (by kernel_rfl) (by simp) ?_
      refine (AllReadyH.cons rfl (fun K hK => ?_) AllReadyH.nil)
      refine step_xstore (x := ⟨x1, x2⟩) (.tmp 5) (.tmp 14) rfl (by rfl) (by rfl) (by rfl) V5.out ?_
      rintro w105 h8 h9
      have hL := InB.kept hHeld h9 G5.out
      have V4 := Lib.hid (V4.out.kept h9 (by first | exact N45.out | exact (fun e => N54.out e.symm)))
      have V6 := Lib.hid (V6.out.kept h9 (by first | exact N65.out | exact (fun e => N56.out e.symm)))
      have V5 := Lib.hid h8
      refine hK.out _ _ hL (fun hHeld => ?_)
      clear hL h8 h9
      clear hK K
      refine wpAnyH_ready (rs := [14]) (by kernel_rfl) (by simp) ?_
      refine (AllReadyH.cons rfl (fun K hK => ?_) AllReadyH.nil)
      refine step_xstore (x := ⟨y1, y2⟩) (.tmp 6) (.tmp 16) rfl (by rfl) (by rfl) (by rfl) V6.out ?_
      rintro w106 h8 h9
      have hL := InB.kept hHeld h9 G6.out
      have V4 := Lib.hid (V4.out.kept h9 (by first | exact N46.out | exact (fun e => N64.out e.symm)))
      have V5 := Lib.hid (V5.out.kept h9 (by first | exact N56.out | exact (fun e => N65.out e.symm)))
      have V6 := Lib.hid h8
      refine hK.out _ _ hL (fun hHeld => ?_)
      clear hL h8 h9
      clear hK K
      refine wpAnyH_done (by kernel_rfl) ?_ _
      exact Tail.out g4 g5 g6 _ hHeld V4.out V5.out V6.out
    · refine step_xalloc rfl (by rfl) ?_
      rintro g6 w102 h7 h8 h9
      have hL := InB.trans hHeld h9.below
      have G6 : Hid (W0.heap.size ≤ g6) := Lib.hid (by have := hHeld.below.size; omega)
      have N46 : Hid (¬ g4 = g6) := Lib.hid (by have := V4.out.inHeap; omega)
      have V4 := Lib.hid (V4.out.inB h9.below)
      have V6 := Lib.hid h8
      refine hK.out _ _ hL (fun hHeld => ?_)
      simp only [Act.put, List.getElem_toArray, List.getElem_cons_zero, List.getElem_cons_succ, List.setIfInBounds_toArray, List.set_cons_zero, List.set_cons_succ]
      clear hL h7 h8 h9
      clear hK K
      refine wpAnyH_ready (rs := [9]) (by kernel_rfl) (by simp) ?_
      refine (AllReadyH.cons rfl (fun K hK => ?_) AllReadyH.nil)
      refine step_xalloc rfl (by rfl) ?_
      rintro g5 w103 h7 h8 h9
      have hL := InB.trans hHeld h9.below
      have G5 : Hid (W0.heap.size ≤ g5) := Lib.hid (by have := hHeld.below.size; omega)
      have N45 : Hid (¬ g4 = g5) := Lib.hid (by have := V4.out.inHeap; omega)
      have N65 : Hid (¬ g6 = g5) := Lib.hid (by have := V6.out.inHeap; omega)
      have V4 := Lib.hid (V4.out.inB h9.below)
      have V6 := Lib.hid (V6.out.inB h9.below)
      have V5 := Lib.hid h8
      refine hK.out _ _ hL (fun hHeld => ?_)
      simp only [Act.put, List.getElem_toArray, List.getElem_cons_zero, List.getElem_cons_succ, List.setIfInBounds_toArray, List.set_cons_zero, List.set_cons_succ]
      clear hL h7 h8 h9
      clear hK K
      refine wpAnyH_take (i := 11) (v := ?_) rfl (by kernel_rfl) (by kernel_rfl) (by kernel_rfl) (fun _ _ _ h => h) (Or.inl ⟨by rfl, (by intro w hSw; go_simp; try with_reducible rfl)⟩) (by assumption) ?_
      simp only [Act.put, List.getElem_toArray, List.getElem_cons_zero, List.getElem_cons_succ, List.setIfInBounds_toArray, List.set_cons_zero, List.set_cons_succ]
      refine wpAnyH_ready (rs := [12]) (by kernel_rfl) (by simp) ?_
      refine (AllReadyH.cons rfl (fun K hK => ?_) AllReadyH.nil)
      refine step_kstore (.tmp 4) (.tmp 12) rfl (by rfl) (by rfl) (by rfl) V4.out LU.out ?_
      rintro w104 h8 h9
      have hL := InB.kept hHeld h9 G4.out
      have V6 := Lib.hid (V6.out.kept h9 (by first | exact N64.out | exact (fun e => N46.out e.symm)))
      have V5 := Lib.hid (V5.out.kept h9 (by first | exact N54.out | exact (fun e => N45.out e.symm)))
      have V4 := Lib.hid h8
      refine hK.out _ _ hL (fun hHeld => ?_)
      clear hL h8 h9
      clear hK K
      refine wpAnyH_ready (rs := [13]) (by kernel_rfl) (by simp) ?_
      refine (AllReadyH.cons rfl (fun K hK => ?_) AllReadyH.nil)
      refine step_xstore (x := ⟨x1, x2⟩) (.tmp 5) (.tmp 14) rfl (by rfl) (by rfl) (by rfl) V5.out ?_
      rintro w105 h8 h9
      have hL := InB.kept hHeld h9 G5.out
      have V4 := Lib.hid (V4.out.kept h9 (by first | exact N45.out | exact (fun e => N54.out e.symm)))
      have V6 := Lib.hid (V6.out.kept h9 (by first | exact N65.out | exact (fun e => N56.out e.symm)))
      have V5 := Lib.hid h8
      refine hK.out _ _ hL (fun hHeld => ?_)
      clear hL h8 h9
      clear hK K
      refine wpAnyH_ready (rs := [14]) (by kernel_rfl) (by simp) ?_
      refine (AllReadyH.cons rfl (fun K hK => ?_) AllReadyH.nil)
      refine step_xstore (x := ⟨y1, y2⟩) (.tmp 6) (.tmp 16) rfl (by rfl) (by rfl) (by rfl) V6.out ?_
      rintro w106 h8 h9
      have hL := InB.kept hHeld h9 G6.out
      have V4 := Lib.hid (V4.out.kept h9 (by first | exact N46.out | exact (fun e => N64.out e.symm)))
      have V5 := Lib.hid (V5.out.kept h9 (by first | exact N56.out | exact (fun e => N65.out e.symm)))
      have V6 := Lib.hid h8
      refine hK.out _ _ hL (fun hHeld => ?_)
      clear hL h8 h9
      clear hK K
      refine wpAnyH_done (by kernel_rfl) ?_ _
      exact Tail.out g4 g5 g6 _ hHeld V4.out V5.out V6.out
  · refine step_xalloc rfl (by rfl) ?_
    rintro g5 w101 h7 h8 h9
    have hL := InB.trans hHeld h9.below
    have G5 : Hid (W0.heap.size ≤ g5) := Lib.hid (by have := hHeld.below.size; omega)
    have V5 := Lib.hid h8
    refine hK.out _ _ hL (fun hHeld => ?_)
    simp only [Act.put, List.getElem_toArray, List.getElem_cons_zero, List.getElem_cons_succ, List.setIfInBounds_toArray, List.set_cons_zero, List.set_cons_succ]
    clear hL h7 h8 h9
    clear hK K
    refine wpAnyH_ready (rs := [8, 10]) (by kernel_rfl) (by simp) ?_
    refine (AllReadyH.cons rfl (fun K hK => ?_) (AllReadyH.cons rfl (fun K hK => ?_) AllReadyH.nil))
    · refine step_valloc rfl (by rfl) ?_
      rintro g4 w102 h7 h8 h9
      have hL := InB.trans hHeld h9.below
      have G4 : Hid (W0.heap.size ≤ g4) := Lib.hid (by have := hHeld.below.size; omega)
      have N54 : Hid (¬ g5 = g4) := Lib.hid (by have := V5.out.inHeap; omega)
      have V5 := Lib.hid (V5.out.inB h9.below)
      have V4 := Lib.hid h8
      refine hK.out _ _ hL (fun hHeld => ?_)
      simp only [Act.put, List.getElem_toArray, List.getElem_cons_zero, List.getElem_cons_succ, List.setIfInBounds_toArray, List.set_cons_zero, List.set_cons_succ]
      clear hL h7 h8 h9
      clear hK K
      refine wpAnyH_ready (rs := [10]) (by kernel_rfl) (by simp) ?_
      refine (AllReadyH.cons rfl (fun K hK => ?_) AllReadyH.nil)
      refine step_xalloc rfl (by rfl) ?_
      rintro g6 w103 h7 h8 h9
      have hL := InB.trans hHeld h9.below
      have G6 : Hid (W0.heap.size ≤ g6) := Lib.hid (by have := hHeld.below.size; omega)
      have N56 : Hid (¬ g5 = g6) := Lib.hid (by have := V5.out.inHeap; omega)
      have N46 : Hid (¬ g4 = g6) := Lib.hid (by have := V4.out.inHeap; omega)
      have V5 := Lib.hid (V5.out.inB h9.below)
      have V4 := Lib.hid (V4.out.inB h9.below)
      have V6 := Lib.hid h8
      refine hK.out _ _ hL (fun hHeld => ?_)
      simp only [Act.put, List.getElem_toArray, List.getElem_cons_zero, List.getElem_cons_succ, List.setIfInBounds_toArray, List.set_cons_zero, List.set_cons_succ]
      clear hL h7 h8 h9
      clear hK K
      refine wpAnyH_take (i := 11) (v := ?_) rfl (by kernel_rfl) (by kernel_rfl) (by kernel_rfl) (fun _ _ _ h => h) (Or.inl ⟨by rfl, (by intro w hSw; go_simp; try with_reducible rfl)⟩) (by assumption) ?_
      simp only [Act.put, List.getElem_toArray, List.getElem_cons_zero, List.getElem_cons_succ, List.setIfInBounds_toArray, List.set_cons_zero, List.set_cons_succ]
      refine wpAnyH_ready (rs := [12]) (by kernel_rfl) (by simp) ?_
      refine (AllReadyH.cons rfl (fun K hK => ?_) AllReadyH.nil)
      refine step_kstore (.tmp 4) (.tmp 12) rfl (by rfl) (by rfl) (by rfl) V4.out LU.out ?_
      rintro w104 h8 h9
      have hL := InB.kept hHeld h9 G4.out
      have V5 := Lib.hid (V5.out.kept h9 (by first | exact N54.out | exact (fun e => N45.out e.symm)))
      have V6 := Lib.hid (V6.out.kept h9 (by first | exact N64.out | exact (fun e => N46.out e.symm)))
      have V4 := Lib.hid h8
      refine hK.out _ _ hL (fun hHeld => ?_)
      clear hL h8 h9
      clear hK K
      refine wpAnyH_ready (rs := [13]) (by kernel_rfl) (by simp) ?_
      refine (AllReadyH.cons rfl (fun K hK => ?_) AllReadyH.nil)
      refine step_xstore (x := ⟨x1, x2⟩) (.tmp 5) (.tmp 14) rfl (by rfl) (by rfl) (by rfl) V5.out ?_
      rintro w105 h8 h9
      have hL := InB.kept hHeld h9 G5.out
      have V4 := Lib.hid (V4.out.kept h9 (by first | exact N45.out | exact (fun e => N54.out e.symm)))
      have V6 := Lib.hid (V6.out.kept h9 (by first | exact N65.out | exact (fun e => N56.out e.symm)))
      have V5 := Lib.hid h8
      refine hK.out _ _ hL (fun hHeld => ?_)
      clear hL h8 h9
      clear hK K
      refine wpAnyH_ready (rs := [14]) (by kernel_rfl) (by simp) ?_
      refine (AllReadyH.cons rfl (fun K hK => ?_) AllReadyH.nil)
      refine step_xstore (x := ⟨y1, y2⟩) (.tmp 6) (.tmp 16) rfl (by rfl) (by rfl) (by rfl) V6.out ?_
      rintro w106 h8 h9
      have hL := InB.kept hHeld h9 G6.out
      have V5 := Lib.hid (V5.out.kept h9 (by first | exact N56.out | exact (fun e => N65.out e.symm)))
      have V4 := Lib.hid (V4.out.kept h9 (by first | exact N46.out | exact (fun e => N64.out e.symm)))
      have V6 := Lib.hid h8
      refine hK.out _ _ hL (fun hHeld => ?_)
      clear hL h8 h9
      clear hK K
      refine wpAnyH_done (by kernel_rfl) ?_ _
      exact Tail.out g4 g5 g6 _ hHeld V4.out V5.out V6.out
    · refine step_xalloc rfl (by rfl) ?_
      rintro g6 w102 h7 h8 h9
      have hL := InB.trans hHeld h9.below
      have G6 : Hid (W0.heap.size ≤ g6) := Lib.hid (by have := hHeld.below.size; omega)
      have N56 : Hid (¬ g5 = g6) := Lib.hid (by have := V5.out.inHeap; omega)
      have V5 := Lib.hid (V5.out.inB h9.below)
      have V6 := Lib.hid h8
      refine hK.out _ _ hL (fun hHeld => ?_)
      simp only [Act.put, List.getElem_toArray, List.getElem_cons_zero, List.getElem_cons_succ, List.setIfInBounds_toArray, List.set_cons_zero, List.set_cons_succ]
      clear hL h7 h8 h9
      clear hK K
      refine wpAnyH_ready (rs := [8]) (by kernel_rfl) (by simp) ?_
      refine (AllReadyH.cons rfl (fun K hK => ?_) AllReadyH.nil)
      refine step_valloc rfl (by rfl) ?_
      rintro g4 w103 h7 h8 h9
      have hL := InB.trans hHeld h9.below
      have G4 : Hid (W0.heap.size ≤ g4) := Lib.hid (by have := hHeld.below.size; omega)
      have N54 : Hid (¬ g5 = g4) := Lib.hid (by have := V5.out.inHeap; omega)
      have N64 : Hid (¬ g6 = g4) := Lib.hid (by have := V6.out.inHeap; omega)
      have V5 := Lib.hid (V5.out.inB h9.below)
      have V6 := Lib.hid (V6.out.inB h9.below)
      have V4 := Lib.hid h8
      refine hK.out _ _ hL (fun hHeld => ?_)
      simp only [Act.put, List.getElem_toArray, List.getElem_cons_zero, List.getElem_cons_succ, List.setIfInBounds_toArray, List.set_cons_zero, List.set_cons_succ]
      clear hL h7 h8 h9
      clear hK K
      refine wpAnyH_take (i := 11) (v := ?_) rfl (by kernel_rfl) (by kernel_rfl) (by kernel_rfl) (fun _ _ _ h => h) (Or.inl ⟨by rfl, (by intro w hSw; go_simp; try with_reducible rfl)⟩) (by assumption) ?_
      simp only [Act.put, List.getElem_toArray, List.getElem_cons_zero, List.getElem_cons_succ, List.setIfInBounds_toArray, List.set_cons_zero, List.set_cons_succ]
      refine wpAnyH_ready (rs := [12]) (by kernel_rfl) (by simp) ?_
      refine (AllReadyH.cons rfl (fun K hK => ?_) AllReadyH.nil)
      refine step_kstore (.tmp 4) (.tmp 12) rfl (by rfl) (by rfl) (by rfl) V4.out LU.out ?_
      rintro w104 h8 h9
      have hL := InB.kept hHeld h9 G4.out
      have V5 := Lib.hid (V5.out.kept h9 (by first | exact N54.out | exact (fun e => N45.out e.symm)))
      have V6 := Lib.hid (V6.out.kept h9 (by first | exact N64.out | exact (fun e => N46.out e.symm)))
      have V4 := Lib.hid h8
      refine hK.out _ _ hL (fun hHeld => ?_)
      clear hL h8 h9
      clear hK K
      refine wpAnyH_ready (rs := [13]) (by kernel_rfl) (by simp) ?_
      refine (AllReadyH.cons rfl (fun K hK => ?_) AllReadyH.nil)
      refine step_xstore (x := ⟨x1, x2⟩) (.tmp 5) (.tmp 14) rfl (by rfl) (by rfl) (by rfl) V5.out ?_
      rintro w105 h8 h9
      have hL := InB.kept hHeld h9 G5.out
      have V6 := Lib.hid (V6.out.kept h9 (by first | exact N65.out | exact (fun e => N56.out e.symm)))
      have V4 := Lib.hid (V4.out.kept h9 (by first | exact N45.out | exact (fun e => N54.out e.symm)))
      have V5 := Lib.hid h8
      refine hK.out _ _ hL (fun hHeld => ?_)
      clear hL h8 h9
      clear hK K
      refine wpAnyH_ready (rs := [14]) (by kernel_rfl) (by simp) ?_
      refine (AllReadyH.cons rfl (fun K hK => ?_) AllReadyH.nil)
      refine step_xstore (x := ⟨y1, y2⟩) (.tmp 6) (.tmp 16) rfl (by rfl) (by rfl) (by rfl) V6.out ?_
      rintro w106 h8 h9
      have hL := InB.kept hHeld h9 G6.out
      have V5 := Lib.hid (V5.out.kept h9 (by first | exact N56.out | exact (fun e => N65.out e.symm)))
      have V4 := Lib.hid (V4.out.kept h9 (by first | exact N46.out | exact (fun e => N64.out e.symm)))
      have V6 := Lib.hid h8
      refine hK.out _ _ hL (fun hHeld => ?_)
      clear hL h8 h9
      clear hK K
      refine wpAnyH_done (by kernel_rfl) ?_ _
      exact Tail.out g4 g5 g6 _ hHeld V4.out V5.out V6.out
  · refine step_xalloc rfl (by rfl) ?_
    rintro g6 w101 h7 h8 h9
    have hL := InB.trans hHeld h9.below
    have G6 : Hid (W0.heap.size ≤ g6) := Lib.hid (by have := hHeld.below.size; omega)
    have V6 := Lib.hid h8
    refine hK.out _ _ hL (fun hHeld => ?_)
    simp only [Act.put, List.getElem_toArray, List.getElem_cons_zero, List.getElem_cons_succ, List.setIfInBounds_toArray, List.set_cons_zero, List.set_cons_succ]
    clear hL h7 h8 h9
    clear hK K
    refine wpAnyH_ready (rs := [8, 9]) (by kernel_rfl) (by simp) ?_
    refine (AllReadyH.cons rfl (fun K hK => ?_) (AllReadyH.cons rfl (fun K hK => ?_) AllReadyH.nil))
    · refine step_valloc rfl (by rfl) ?_
      rintro g4 w102 h7 h8 h9
      have hL := InB.trans hHeld h9.below
      have G4 : Hid (W0.heap.size ≤ g4) := Lib.hid (by have := hHeld.below.size; omega)
      have N64 : Hid (¬ g6 = g4) := Lib.hid (by have := V6.out.inHeap; omega)
      have V6 := Lib.hid (V6.out.inB h9.below)
      have V4 := Lib.hid h8
      refine hK.out _ _ hL (fun hHeld => ?_)
      simp only [Act.put, List.getElem_toArray, List.getElem_cons_zero, List.getElem_cons_succ, List.setIfInBounds_toArray, List.set_cons_zero, List.set_cons_succ]
      clear hL h7 h8 h9
      clear hK K
      refine wpAnyH_ready (rs := [9]) (by kernel_rfl) (by simp) ?_
      refine (AllReadyH.cons rfl (fun K hK => ?_) AllReadyH.nil)
      refine step_xalloc rfl (by rfl) ?_
      rintro g5 w103 h7 h8 h9
      have hL := InB.trans hHeld h9.below
      have G5 : Hid (W0.heap.size ≤ g5) := Lib.hid (by have := hHeld.below.size; omega)
      have N65 : Hid (¬ g6 = g5) := Lib.hid (by have := V6.out.inHeap; omega)
      have N45 : Hid (¬ g4 = g5) := Lib.hid (by have := V4.out.inHeap; omega)
      have V6 := Lib.hid (V6.out.inB h9.below)
      have V4 := Lib.hid (V4.out.inB h9.below)
      have V5 := Lib.hid h8
      refine hK.out _ _ hL (fun hHeld => ?_)
      simp only [Act.put, List.getElem_toArray, List.getElem_cons_zero, List.getElem_cons_succ, List.setIfInBounds_toArray, List.set_cons_zero, List.set_cons_succ]
      clear hL h7 h8 h9
      clear hK K
      refine wpAnyH_take (i := 11) (v := ?_) rfl (by kernel_rfl) (by kernel_rfl) (by kernel_rfl) (fun _ _ _ h => h) (Or.inl ⟨by rfl, (by intro w hSw; go_simp; try with_reducible rfl)⟩) (by assumption) ?_
      simp only [Act.put, List.getElem_toArray, List.getElem_cons_zero, List.getElem_cons_succ, List.setIfInBounds_toArray, List.set_cons_zero, List.set_cons_succ]
      refine wpAnyH_ready (rs := [12]) (by kernel_rfl) (by simp) ?_
      refine (AllReadyH.cons rfl (fun K hK => ?_) AllReadyH.nil)
      refine step_kstore (.tmp 4) (.tmp 12) rfl (by rfl) (by rfl) (by rfl) V4.out LU.out ?_
      rintro w104 h8 h9
      have hL := InB.kept hHeld h9 G4.out
      have V6 := Lib.hid (V6.out.kept h9 (by first | exact N64.out | exact (fun e => N46.out e.symm)))
      have V5 := Lib.hid (V5.out.kept h9 (by first | exact N54.out | exact (fun e => N45.out e.symm)))
      have V4 := Lib.hid h8
      refine hK.out _ _ hL (fun hHeld => ?_)
      clear hL h8 h9
      clear hK K
      refine wpAnyH_ready (rs := [13]) (by kernel_rfl) (by simp) ?_
      refine (AllReadyH.cons rfl (fun K hK => ?_) AllReadyH.nil)
      refine step_xstore (x := ⟨x1, x2⟩) (.tmp 5) (.tmp 14) rfl (by rfl) (by rfl) (by rfl) V5.out ?_
      rintro w105 h8 h9
      have hL := InB.kept hHeld h9 G5.out
      have V6 := Lib.hid (V6.out.kept h9 (by first | exact N65.out | exact (fun e => N56.out e.symm)))
      have V4 := Lib.hid (V4.out.kept h9 (by first | exact N45.out | exact (fun e => N54.out e.symm)))
      have V5 := Lib.hid h8
      refine hK.out _ _ hL (fun hHeld => ?_)
      clear hL h8 h9
      clear hK K
      refine wpAnyH_ready (rs := [14]) (by kernel_rfl) (by simp) ?_
      refine (AllReadyH.cons rfl (fun K hK => ?_) AllReadyH.nil)
      refine step_xstore (x := ⟨y1, y2⟩) (.tmp 6) (.tmp 16) rfl (by rfl) (by rfl) (by rfl) V6.out ?_
      rintro w106 h8 h9
      have hL := InB.kept hHeld h9 G6.out
      have V4 := Lib.hid (V4.out.kept h9 (by first | exact N46.out | exact (fun e => N64.out e.symm)))
      have V5 := Lib.hid (V5.out.kept h9 (by first | exact N56.out | exact (fun e => N65.out e.symm)))
      have V6 := Lib.hid h8
      refine hK.out _ _ hL (fun hHeld => ?_)
      clear hL h8 h9
      clear hK K
      refine wpAnyH_done (by kernel_rfl) ?_ _
      exact Tail.out g4 g5 g6 _ hHeld V4.out V5.out V6.out
    · refine step_xalloc rfl (by rfl) ?_
      rintro g5 w102 h7 h8 h9
      have hL := InB.trans hHeld h9.below
      have G5 : Hid (W0.heap.size ≤ g5) := Lib.hid (by have := hHeld.below.size; omega)
      have N65 : Hid (¬ g6 = g5) := Lib.hid (by have := V6.out.inHeap; omega)
      have V6 := Lib.hid (V6.out.inB h9.below)
      have V5 := Lib.hid h8
      refine hK.out _ _ hL (fun hHeld => ?_)
      simp only [Act.put, List.getElem_toArray, List.getElem_cons_zero, List.getElem_cons_succ, List.setIfInBounds_toArray, List.set_cons_zero, List.set_cons_succ]
      clear hL h7 h8 h9
      clear hK K
      refine wpAnyH_ready (rs := [8]) (by kernel_rfl) (by simp) ?_
      refine (AllReadyH.cons rfl (fun K hK => ?_) AllReadyH.nil)
      refine step_valloc rfl (by rfl) ?_
      rintro g4 w103 h7 h8 h9
      have hL := InB.trans hHeld h9.below
      have G4 : Hid (W0.heap.size ≤ g4) := Lib.hid (by have := hHeld.below.size; omega)
      have N64 : Hid (¬ g6 = g4) := Lib.hid (by have := V6.out.inHeap; omega)
      have N54 : Hid (¬ g5 = g4) := Lib.hid (by have := V5.out.inHeap; omega)
      have V6 := Lib.hid (V6.out.inB h9.below)
      have V5 := Lib.hid (V5.out.inB h9.below)
      have V4 := Lib.hid h8
      refine hK.out _ _ hL (fun hHeld => ?_)
      simp only [Act.put, List.getElem_toArray, List.getElem_cons_zero, List.getElem_cons_succ, List.setIfInBounds_toArray, List.set_cons_zero, List.set_cons_succ]
      clear hL h7 h8 h9
      clear hK K
      refine wpAnyH_take (i := 11) (v := ?_) rfl (by kernel_rfl) (by kernel_rfl) (by kernel_rfl) (fun _ _ _ h => h) (Or.inl ⟨by rfl, (by intro w hSw; go_simp; try with_reducible rfl)⟩) (by assumption) ?_
      simp only [Act.put, List.getElem_toArray, List.getElem_cons_zero, List.getElem_cons_succ, List.setIfInBounds_toArray, List.set_cons_zero, List.set_cons_succ]
      refine wpAnyH_ready (rs := [12]) (by kernel_rfl) (by simp) ?_
      refine (AllReadyH.cons rfl (fun K hK => ?_) AllReadyH.nil)
      refine step_kstore (.tmp 4) (.tmp 12) rfl (by rfl) (by rfl) (by rfl) V4.out LU.out ?_
      rintro w104 h8 h9
      have hL := InB.kept hHeld h9 G4.out
      have V6 := Lib.hid (V6.out.kept h9 (by first | exact N64.out | exact (fun e => N46.out e.symm)))
      have V5 := Lib.hid (V5.out.kept h9 (by first | exact N54.out | exact (fun e => N45.out e.symm)))
      have V4 := Lib.hid h8
      refine hK.out _ _ hL (fun hHeld => ?_)
      clear hL h8 h9
      clear hK K
      refine wpAnyH_ready (rs := [13]) (by kernel_rfl) (by simp) ?_
      refine (AllReadyH.cons rfl (fun K hK => ?_) AllReadyH.nil)
      refine step_xstore (x := ⟨x1, x2⟩) (.tmp 5) (.tmp 14) rfl (by rfl) (by rfl) (by rfl) V5.out ?_
      rintro w105 h8 h9
      have hL := InB.kept hHeld h9 G5.out
      have V6 := Lib.hid (V6.out.kept h9 (by first | exact N65.out | exact (fun e => N56.out e.symm)))
      have V4 := Lib.hid (V4.out.kept h9 (by first | exact N45.out | exact (fun e => N54.out e.symm)))
      have V5 := Lib.hid h8
      refine hK.out _ _ hL (fun hHeld => ?_)
      clear hL h8 h9
      clear hK K
      refine wpAnyH_ready (rs := [14]) (by kernel_rfl) (by simp) ?_
      refine (AllReadyH.cons rfl (fun K hK => ?_) AllReadyH.nil)
      refine step_xstore (x := ⟨y1, y2⟩) (.tmp 6) (.tmp 16) rfl (by rfl) (by rfl) (by rfl) V6.out ?_
      rintro w106 h8 h9
      have hL := InB.kept hHeld h9 G6.out
      have V5 := Lib.hid (V5.out.kept h9 (by first | exact N56.out | exact (fun e => N65.out e.symm)))
      have V4 := Lib.hid (V4.out.kept h9 (by first | exact N46.out | exact (fun e => N64.out e.symm)))
      have V6 := Lib.hid h8
      refine hK.out _ _ hL (fun hHeld => ?_)
      clear hL h8 h9
      clear hK K
      refine wpAnyH_done (by kernel_rfl) ?_ _
      exact Tail.out g4 g5 g6 _ hHeld V4.out V5.out V6.out
end Go.Proofs.Ytlgaljlbjbfdgaa
