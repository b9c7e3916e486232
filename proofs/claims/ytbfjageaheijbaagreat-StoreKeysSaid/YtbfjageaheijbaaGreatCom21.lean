/- The landed disk: a sector is written. -/
import Derived.Test.YtbfjageaheijbaaGreatCom20
import Derived.Test.YtbfjageaheijbaaGreatCom15
import Derived.Lib.BufferWrite
import Derived.Great.BuildSlice
import Derived.Laws.IdiomStrings
set_option linter.unusedSimpArgs false
set_option linter.unusedVariables false
namespace Go.Proofs.YtbfjageaheijbaaGreat
open Go.RowKit Dsk

section
variable {w : World} {F : Nat → Prop} {b bm : Nat} {sv : Value} {N : Nat} {M : DataW Value} {pv : Nat → Value} {d : D}

set_option maxRecDepth 100000 in
theorem write_no {v : Value} (h : At w F v d) (i : Int) (s : ByteArray) (hs : s.size ≤ 9223372036854775807) (hd : ¬ d.down = true → ¬ (i < 0 ∨ (d.S.length : Int) ≤ i) → 64 < s.size) :
    Calls Tryz.prog 56 #[v, .int .i64 i, .string s] w fun e w' => e = .returned (.int .i64 (d.write i s).1) ∧ Does At w F v (d.write i s).2 w' := by
  have hsm := does_same h
  obtain ⟨b, bm, sv, N, M, pv, rfl, h⟩ := h
  have hop := open_any h i
  have Hop := Lib.hid hop
  have hw : d.write i s = ((if openE d i = 0 then 4 else openE d i), d) := by
    unfold D.write openE
    by_cases h1 : d.down = true
    · rw [if_pos h1, if_pos h1]; rfl
    · rw [if_neg h1, if_neg h1]
      by_cases h2 : i < 0 ∨ (d.S.length : Int) ≤ i
      · rw [if_pos h2, if_pos h2]; rfl
      · rw [if_neg h2, if_neg h2, if_pos (hd h1 h2)]; rfl
  rw [hw]
  have hz : openE d i = 0 → 64 < s.size := fun e => by
    unfold openE at e
    by_cases h1 : d.down = true
    · rw [if_pos h1] at e; cases e
    · rw [if_neg h1] at e
      by_cases h2 : i < 0 ∨ (d.S.length : Int) ≤ i
      · rw [if_pos h2] at e; cases e
      · exact hd h1 h2
  have Hsm := Lib.hid hsm
  clear hop hw h hd hsm
  generalize openE d i = oe at *
  by_cases h0 : oe = 0
  · subst h0
    have hz' := hz rfl
    have hb : decide ((s.size : Int) > 64) = true := by simp; omega
    clear hz
    go_enter Tryz.func56, Tryz.ntmps56
    go_wp2_with (go_at_call 83; with_reducible refine Hop.out.mono ?_; rintro e w' ⟨rfl, rfl⟩)
    go_ret
    exact ⟨rfl, Hsm.out⟩
  · rw [if_neg h0]
    have hb : (oe != 0) = true := by simpa using h0
    clear hz h0
    go_enter Tryz.func56, Tryz.ntmps56
    go_wp2_with (go_at_call 83; with_reducible refine Hop.out.mono ?_; rintro e w' ⟨rfl, rfl⟩)
    go_ret
    exact ⟨rfl, Hsm.out⟩

set_option maxRecDepth 100000 in
theorem fill_cells (s : ByteArray) (hs : s.size ≤ 64) : (((secV (fill ⟨#[]⟩)).toArray.toList.take 0 ++ Go.Lib.byteCells s.data.toList ++ (secV (fill ⟨#[]⟩)).toArray.toList.drop (0 + s.size)).toArray : Array Value) = (secV (fill s)).toArray := by
  congr 1
  rw [List.take_zero, List.nil_append, Nat.zero_add]
  have hl : s.data.toList.length = s.size := rfl
  show Go.Lib.byteCells s.data.toList ++ (((⟨#[]⟩ : ByteArray).data ++ Array.replicate (64 - (⟨#[]⟩ : ByteArray).size) 0).toList.map fun c : UInt8 => Value.int .u8 (c.toNat : Int)).drop s.size = ((s.data ++ Array.replicate (64 - s.size) 0).toList.map fun c : UInt8 => Value.int .u8 (c.toNat : Int))
  have e0 : (((⟨#[]⟩ : ByteArray).data ++ Array.replicate (64 - (⟨#[]⟩ : ByteArray).size) 0).toList : List UInt8) = List.replicate 64 0 := rfl
  rw [e0, Array.toList_append, List.map_append, Array.toList_replicate, List.map_replicate, List.map_replicate, List.drop_replicate]
  rfl

/-- While a sector's text is laid behind the others: W: the world behind the text's own block. -/
structure WS (w1 W : World) (b bm k : Nat) (v : Value) (x : ByteArray) (w' : World) : Prop where
  c1 : w'.cell? ⟨b, 1, none⟩ = some (.map (some bm))
  lk : (Instr.lookup 71 (.map (some bm)) (.int .i64 (k : Int)) false).run Tryz.prog w' = .ok v w'
  row : Row w' w1.heap.size 93 (secV x).toArray
  kept : Kept (fun i => v.ownBlock = some i) W w'

set_option maxRecDepth 100000 in
theorem WS.range {w1 W w' : World} {k : Nat} {v : Value} {x : ByteArray} (h : WS w1 W b bm k v x w') : w'.rangeAt w1.heap.size 0 (secV x) := fun j u hu => by
  rw [h.row.at (0 + j), Nat.zero_add, List.getElem?_toArray]
  exact hu

set_option maxRecDepth 100000 in
theorem WS.make {w1 W : World} {k : Nat} {v : Value} {x : ByteArray} (h : DAt W F b bm sv N M pv d) (hk : k ≤ 1000000) (hv : M.atKey (key k) (.held (.slice none 0 0)) = .held v) (hb : v.ownBlock ≠ some b) (hm : v.ownBlock ≠ some bm)
    (hr : Row W w1.heap.size 93 (secV x).toArray) (hne : v.ownBlock ≠ some w1.heap.size) {w' : World} (hk2 : Kept (fun i => v.ownBlock = some i) W w') : WS w1 W b bm k v x w' :=
  ⟨(hk2.cell (p := ⟨b, 1, none⟩) h.lt hb).trans h.facts.2.1, look_at (ownsMap_kept h.map hk2 hm) hk hv, hr.kept hk2 hne, hk2⟩

set_option maxRecDepth 100000 in
theorem exec_load {w : World} {f : Operand → Value} {op : Oper} {x : Operand} {g o : Nat} {s : ByteArray} (ho : op.op = .load 93 x) (hx : f x = .pointer (some ⟨g, o, none⟩)) (hr : w.rangeAt g o (secV s)) (hs : s.size = 64) :
    (execOp f op).run Tryz.prog w = .ok (.value (.agg (secV s).toArray)) w := by
  have h := load_sec hr hs
  unfold execOp
  simp only [ho, hx, Sem.run_bind, Result.andThen_ok, h]
  rfl

set_option maxRecDepth 100000 in
/-- One sector, laid into a slice of its own. -/
theorem step_build {ops : Array Oper} {o : Oper} {a : Act} {w : World} {K : Act → World → Prop} {Q : Exit → Act → World → Prop} {E : Prop} (x : Operand) (s : ByteArray) (hgd : o.guard = none) (ho : o.op = .buildSlice 70 1 #[(0, x)]) (hx : a.eval x = .agg (secV s).toArray) (hs : s.size = 64)
    (h : K (a.put o.dst (.slice (some ⟨w.heap.size, 0, none⟩) 1 1)) (w.alloc (.cells (secV s).toArray 93))) :
    if Region.wanted o (yielded ops a.tmps) = true then Oper.wp Tryz.prog o a w K Q else E := by
  have hw : Region.wanted o (yielded ops a.tmps) = true := by simp [Region.wanted, hgd]
  rw [if_pos hw]
  obtain ⟨i0, hi, hz0, hz1, hz2⟩ := info_parts secInfo3
  have hl : (secV s).length = 64 := by rw [secV_len, hs]
  refine wp_buildSlice 70 93 1 _ ho (secV s).toArray i0 _ Tryz.underlying70 hi hz0 (by rw [hz1]; decide) (by rw [hz1]; decide) ?_ h
  have hp : ((#[(0, x)] : Array (Nat × Operand)).map fun (i, x) => (i, a.eval x)).toList = [(0, Value.agg (secV s).toArray)] := by simp [hx]
  rw [hp, hz1]
  have := Great.fill_whole (s := 64) (by decide) [Value.agg (secV s).toArray] ((Array.range (1 * 64)).map ((Value.agg (secV (fill ⟨#[]⟩)).toArray).cells[· % (Value.agg (secV (fill ⟨#[]⟩)).toArray).cells.size]!)) (fun v hv => by rw [List.mem_singleton.1 hv]; simp [Value.cells, hl]) (by simp)
  simpa [Value.cells] using this

set_option maxRecDepth 100000 in
set_option maxHeartbeats 1600000 in
theorem write_ok (h : DAt w F b bm sv N M pv d) {k : Nat} (hk : k < d.S.length) (s : ByteArray) (hs : s.size ≤ 64) (hc : d.calls ≤ 100000) (ha : d.armed < 9223372036854775808) (hd : d.down = false) (hmx : (d.at k).length ≤ 100001) :
    Calls Tryz.prog 56 #[.pointer (some ⟨b, 0, none⟩), .int .i64 (k : Int), .string s] w fun e w' => e = .returned (.int .i64 (d.write k s).1) ∧ Does At w F (.pointer (some ⟨b, 0, none⟩)) (d.write k s).2 w' := by
  obtain ⟨i0, hi, hz0, hz1, hz2⟩ := info_parts secInfo3
  have hz := (zero_of_info secZero).1
  have hop := open_any h (k : Int)
  have e0 : openE d (k : Int) = 0 := by
    unfold openE
    rw [if_neg (by rw [hd]; decide), if_neg (by omega)]
  rw [e0] at hop
  have hw : d.write k s = if d.call.down = true then (12, d.call) else (0, { d.call with S := d.S.set k (d.at k ++ [fill s]) }) := by
    unfold D.write
    rw [if_neg (by rw [hd]; decide), if_neg (by omega), if_neg (by omega), Int.toNat_natCast]
  rw [hw]
  have hcall := call_any h (by omega) ha hd
  have hb : decide ((s.size : Int) > 64) = false := by simp; omega
  have hsz' : (s.size : Int) ≤ 64 := by omega
  have fin0 : Hid (d.call.down = true → ∀ w', DAt w' F b bm sv N M pv d.call → w.grownBy w' (some b) → Does At w F (.pointer (some ⟨b, 0, none⟩)) d.call w') := Lib.hid (fun _ w' h1 h2 =>
    ⟨⟨b, bm, sv, N, M, pv, rfl, h1.mono (fun _ hi => Or.inl hi)⟩, Kept.ofGrown h2 (fun i e => by injection e with e; subst e; exact h.inB)⟩)
  have hl : d.S[k]? = some (d.at k) := by
    unfold D.at
    rw [List.getD_eq_getElem?_getD, List.getElem?_eq_getElem hk]; rfl
  have hk6 := h.small hl
  obtain ⟨s0, t, hst⟩ : ∃ s0 t, d.at k = s0 :: t := by
    cases e : d.at k with
    | nil => have := h.full _ (List.mem_of_getElem? hl); rw [e] at this; cases this
    | cons a r => exact ⟨a, r, rfl⟩
  rw [hst] at hl hmx hw ⊢
  have hx64 : (fill s).size = 64 := fill_size s hs
  have hmx : t.length + 1 ≤ 100001 := hmx
  have Hop := Lib.hid hop
  have Hcall := Lib.hid hcall
  have Hh := Lib.hid h
  have Hx64 : Hid ((secV (fill s)).length = 1 * 64) := Lib.hid (by rw [secV_len, hx64])
  have Hsl : Hid ((Tryz.prog.info? 93).map (·.size) = some (secV (fill s)).length) := Lib.hid (by rw [secV_len, hx64]; exact secInfo)
  have Hmx : Hid (t.length + 1 ≤ maxLen) := Lib.hid (by unfold maxLen; omega)
  have Hby : Hid ((t.length + 1) * 64 ≤ 140737488355328) := Lib.hid (by omega)
  have Hk := Lib.hid hk6
  have Hn : Hid (N < maxLen) := Lib.hid (by have := h.big; unfold maxLen; omega)
  have Hl := Lib.hid hl
  have Hxz := Lib.hid hx64
  have hcs : Hid (∀ (w1 : World) (ty : TypeId), (Builtin.copy_ #[99, 9] ty #[.slice (some ⟨w1.heap.size, 0, none⟩) 64 64, .string s]).run Tryz.prog (w1.alloc (.cells (secV (fill ⟨#[]⟩)).toArray 93)) = .ok (goInt s.size) (w1.alloc (.cells (secV (fill s)).toArray 93))) := Lib.hid (fun w1 ty => by
    have hu : Tryz.prog.underlying 99 = some (.slice 5) := Tryz.underlying99
    have hs1 : (Tryz.prog.info? 5).map (·.size) = some 1 := by kernel_rfl
    have := Lib.run_copy_row_string (P := Tryz.prog) (w1.alloc (.cells (secV (fill ⟨#[]⟩)).toArray 93)) 99 9 ty 5 w1.heap.size 0 64 64 s _ 93 hu hs1 (heap_alloc_new w1 _) hs (by rw [List.size_toArray, secV_len, fill_nil]; omega)
    rw [this, fill_cells s hs, World.setRow_alloc_new])
  have Hz := Lib.hid hz
  have hkI : (k : Int) ≤ 1000000 := by omega
  have hck : d.call.S = d.S := rfl
  have hcc : d.call.calls = d.calls + 1 := rfl
  have fin1 : Hid (∀ (w1 w5 w6 : World) (v : Value) (g cap : Nat), DAt w1 F b bm sv N M pv d.call → w.grownBy w1 (some b) → M.atKey (key k) (.held (.slice none 0 0)) = .held v →
      OwnS w5 (.slice (some ⟨g, 0, none⟩) (t.length + 1) cap) (t ++ [fill s]) → Kept (fun i => v.ownBlock = some i) w1 w5 → (v.ownBlock = some g ∨ w1.heap.size ≤ g) → g < w5.heap.size →
      w6.ownsMap Tryz.prog 3 rawElem bm (N + 1) (M.put (key k) (.held (.slice (some ⟨g, 0, none⟩) (t.length + 1) cap))) → w5.grownBy w6 (some bm) →
      Does At w F (.pointer (some ⟨b, 0, none⟩)) { d.call with S := d.S.set k (s0 :: t ++ [fill s]) } w6) := Lib.hid (fun w1 w5 w6 v g cap h1 hg1 hv ho hk1 hat hlt hmp hg2 => by
    have hp := h1.put (k := k) (l := s0 :: t) hl hx64 hv (c := d.call.calls) (a := d.call.armed) (q := d.call.down) ho hk1 hat hlt hmp hg2 h1.blk (by rw [hcc]; have := h.big; omega)
    have hkk : Kept F w w6 := by
      have k1 : Kept F w w1 := Kept.ofGrown hg1 (fun i e => by injection e with e; subst e; exact h.inB)
      have k2 : Kept F w1 w5 := hk1.mono (fun i hi => by
        obtain ⟨v', e1, -, p2, p3⟩ := h1.held (k := k) hl
        have : v' = v := by rw [hv] at e1; injection e1 with e1; exact e1.symm
        subst this
        by_cases hp : 1 < (s0 :: t).length
        · rw [p2 hp] at hi
          exact (h1.inP k _ i hl hp hi).1
        · rw [p3 hp] at hi; cases hi)
      have k3 : Kept F w5 w6 := Kept.ofGrown hg2 (fun i e => by injection e with e; subst e; exact h.inM)
      exact (k1.trans k2 (fun _ _ h => h)).trans k3 (fun _ _ h => h)
    refine ⟨⟨b, bm, sv, N + 1, _, _, rfl, hp.mono (fun i hi => Grow.later hi ?_)⟩, hkk⟩
    exact hg1.size)
  clear hop hcall h hw hz hx64 hl hmx hk6 hst e0 hck hcc ha hs
  by_cases hq : d.call.down = true
  · rw [if_pos hq]
    have Fq : Hid (∀ w', DAt w' F b bm sv N M pv d.call → w.grownBy w' (some b) → Does At w F (.pointer (some ⟨b, 0, none⟩)) d.call w') := Lib.hid (fin0.out hq)
    have hcall := Hcall.out
    rw [hq] at hcall
    have Hcall2 := Lib.hid hcall
    clear hq hcall
    go_enter Tryz.func56, Tryz.ntmps56
    go_wp2_with (go_at_call 83; with_reducible refine Hop.out.mono ?_; rintro e w' ⟨rfl, rfl⟩)
    refine Hcall2.out.mono ?_
    rintro e w1 ⟨rfl, h1, hg1⟩
    have f := Fq.out _ h1 hg1
    have Ff := Lib.hid f
    clear f h1 hg1
    go_wp2_with fail
    go_ret
    exact ⟨rfl, Ff.out⟩
  · rw [if_neg hq]
    have hqf : d.call.down = false := by simpa using hq
    have hcall := Hcall.out
    rw [hqf] at hcall
    have Hcall2 := Lib.hid hcall
    clear hq hqf hcall
    have Hd := Lib.hid hd
    clear hd
    go_enter Tryz.func56, Tryz.ntmps56
    go_wp2_with (go_at_call 83; with_reducible refine Hop.out.mono ?_; rintro e w' ⟨rfl, rfl⟩)
    refine Hcall2.out.mono ?_
    rintro e w1 ⟨rfl, h1, hg1⟩
    have H1 := Lib.hid h1
    have Hg1 := Lib.hid hg1
    clear h1 hg1
    have hcp := hcs.out w1
    have hz := Hz.out
    obtain ⟨v, hv, hvo, hvp, hvn⟩ := H1.out.held (k := k) Hl.out
    have hvb : v.ownBlock ≠ some b ∧ v.ownBlock ≠ some bm ∧ ∀ i, v.ownBlock = some i → i < w1.heap.size := by
      by_cases hp : 1 < (s0 :: t).length
      · obtain ⟨q1, q2, q3⟩ := H1.out.ne
        refine ⟨fun e => ?_, fun e => ?_, fun i hi => ?_⟩
        · rw [hvp hp] at e; exact (H1.out.inP k _ b Hl.out hp e).2.1 rfl
        · rw [hvp hp] at e; exact q3 k _ bm Hl.out hp e rfl
        · obtain ⟨cur, hc⟩ := ownS_block hvo hi; exact lt_of_block hc
      · rw [hvn hp]
        exact ⟨fun e => (by cases e), fun e => (by cases e), fun i hi => (by cases hi)⟩
    obtain ⟨hvb1, hvb2, hvb3⟩ := hvb
    have hW : DAt (w1.alloc (.cells (secV (fill s)).toArray 93)) F b bm sv N M pv d.call := H1.out.kept ((Kept.refl (fun _ => False) w1).alloc _) (fun _ _ h => h)
    have hS : Hid (∀ w', Kept (fun i => v.ownBlock = some i) (w1.alloc (.cells (secV (fill s)).toArray 93)) w' → WS w1 (w1.alloc (.cells (secV (fill s)).toArray 93)) b bm k v (fill s) w') := Lib.hid (fun w' hk2 =>
      WS.make hW Hk.out hv hvb1 hvb2 (Row.made _ _ _) (fun e => by have := hvb3 _ e; omega) hk2)
    have hS0 := hS.out _ (Kept.refl _ _)
    have Hov : Hid (∀ w', Kept (fun _ => False) w1 w' → OwnS w' v t) := Lib.hid (fun w' hk => hvo.kept hk (fun _ _ h => h))
    have Hown : Hid (∀ i, v.ownBlock = some i → i < w1.heap.size) := Lib.hid hvb3
    have Hv := Lib.hid hv
    have Hm : Hid (∀ w', Kept (fun i => v.ownBlock = some i) (w1.alloc (.cells (secV (fill s)).toArray 93)) w' → w'.ownsMap Tryz.prog 3 rawElem bm N M) := Lib.hid (fun w' hk => ownsMap_kept hW.map hk hvb2)
    clear hvo hvp hvn hv hvb1 hvb2 hvb3 hW
    go_wp2_with fail
    generalize hWW : w1.alloc (.cells (secV (fill s)).toArray 93) = W at *
    have hWs : W.heap.size = w1.heap.size + 1 := by rw [← hWW]; simp
    have HWs := Lib.hid hWs
    have Hk1 : Hid (Kept (fun _ => False) w1 W) := Lib.hid (by rw [← hWW]; exact (Kept.refl _ _).alloc _)
    have Hnews : Hid (∀ j u, (secV (fill s))[j]? = some u → ((W.alloc (.cells (secV (fill s)).toArray 93)).drew).cell? ((⟨W.heap.size, 0, none⟩ : Addr).add j) = some u) := Lib.hid (fun j u hu => by
      have := World.news_of_block (w := (W.alloc (.cells (secV (fill s)).toArray 93)).drew) (heap_alloc_new W _) j u (by simpa using hu)
      exact this)
    have Hov2 : Hid (OwnS ((W.alloc (.cells (secV (fill s)).toArray 93)).drew) v t) := Lib.hid (Hov.out _ (((Hk1.out).alloc _).drew))
    have Hfinal : Hid (∀ (w5 w6 : World) (g cap : Nat), w5.ownsRow 0 93 64 (.slice (some ⟨g, 0, none⟩) (t.length + 1) cap) (t.length + 1) (secs t ++ secV (fill s)) → ((W.alloc (.cells (secV (fill s)).toArray 93)).drew).grownBy w5 v.ownBlock → (v.ownBlock = some g ∨ g = W.heap.size + 1) → g < w5.heap.size →
        w6.ownsMap Tryz.prog 3 rawElem bm (N + 1) (M.put (key k) (.held (.slice (some ⟨g, 0, none⟩) (t.length + 1) cap))) → w5.grownBy w6 (some bm) →
        Does At w F (.pointer (some ⟨b, 0, none⟩)) { d.call with S := d.S.set k (s0 :: (t ++ [fill s])) } w6) := Lib.hid (fun w5 w6 g cap h5 hg5 hat hlt hm hg6 => by
      refine fin1.out w1 w5 w6 v g cap H1.out Hg1.out Hv.out ⟨?_, ?_⟩ ?_ ?_ hlt hm hg6
      · have e : secs t ++ secV (fill s) = secs (t ++ [fill s]) := by rw [secs_append]; simp [secs]
        rw [← e, List.length_append]
        exact h5
      · intro x hx
        rcases List.mem_append.1 hx with hx | hx
        · exact Hov2.out.2 x hx
        · rw [List.mem_singleton.1 hx]; exact Hxz.out
      · exact (((Hk1.out.alloc _).drew).mono (fun _ h => h.elim)).trans (Kept.ofGrown hg5 (fun i e => e)) (fun _ _ h => h)
      · rcases hat with h | h
        · exact Or.inl h
        · exact Or.inr (by omega))
    have Hgrow : Hid (∀ w5, ((W.alloc (.cells (secV (fill s)).toArray 93)).drew).grownBy w5 v.ownBlock → Kept (fun i => v.ownBlock = some i) W w5) := Lib.hid (fun w5 hg5 =>
      (((Kept.refl (fun i => v.ownBlock = some i) W).alloc _).drew).trans (Kept.ofGrown hg5 (fun i e => e)) (fun _ _ h => h))
    have hS1 : WS w1 W b bm k v (fill s) W.drew := hS.out _ (Kept.refl _ W).drew
    have Hcp := Lib.hid hcp
    clear hcp hS0 hWW hWs
    refine wp_region_tail (n := 14) (S := (WS w1 W b bm k v (fill s))) (by kernel_rfl) (by kernel_rfl) (by rfl) hS1 (fun hHeld => ?_)
    refine wpAnyH_take (i := 0) (v := ?_) rfl (by kernel_rfl) (by kernel_rfl) (by kernel_rfl) (fun _ _ _ h => h) (Or.inl ⟨by rfl, (by intro w hSw; go_simp; try with_reducible rfl)⟩) (by assumption) ?_
    simp only [Act.put, List.getElem_toArray, List.getElem_cons_zero, List.getElem_cons_succ, List.setIfInBounds_toArray, List.set_cons_zero, List.set_cons_succ]
    refine wpAnyH_take (i := 1) (v := ?_) rfl (by kernel_rfl) (by kernel_rfl) (by kernel_rfl) (fun _ _ _ h => h) (Or.inl ⟨by rfl, (by intro w hSw; go_simp; try with_reducible rfl)⟩) (by assumption) ?_
    simp only [Act.put, List.getElem_toArray, List.getElem_cons_zero, List.getElem_cons_succ, List.setIfInBounds_toArray, List.set_cons_zero, List.set_cons_succ]
    refine wpAnyH_take (i := 2) (v := ?_) rfl (by kernel_rfl) (by kernel_rfl) (by kernel_rfl) (fun _ _ _ h => h) (Or.inl ⟨by rfl, (by intro w hSw; go_simp; try with_reducible rfl)⟩) (by assumption) ?_
    simp only [Act.put, List.getElem_toArray, List.getElem_cons_zero, List.getElem_cons_succ, List.setIfInBounds_toArray, List.set_cons_zero, List.set_cons_succ]
    refine wpAnyH_take (i := 3) (v := ?_) rfl (by kernel_rfl) (by kernel_rfl) (by kernel_rfl) (fun _ _ _ h => h) (Or.inl ⟨by rfl, (by intro w hSw; have c1 := hSw.c1; go_simp; try with_reducible rfl)⟩) (by assumption) ?_
    simp only [Act.put, List.getElem_toArray, List.getElem_cons_zero, List.getElem_cons_succ, List.setIfInBounds_toArray, List.set_cons_zero, List.set_cons_succ]
    refine wpAnyH_take (i := 4) (v := ?_) rfl (by kernel_rfl) (by kernel_rfl) (by kernel_rfl) (fun _ _ _ h => h) (Or.inl ⟨by rfl, (by intro w hSw; go_simp; try with_reducible rfl)⟩) (by assumption) ?_
    simp only [Act.put, List.getElem_toArray, List.getElem_cons_zero, List.getElem_cons_succ, List.setIfInBounds_toArray, List.set_cons_zero, List.set_cons_succ]
    refine wpAnyH_take (i := 5) (v := ?_) rfl (by kernel_rfl) (by kernel_rfl) (by kernel_rfl) (fun _ _ _ h => h) (Or.inl ⟨by rfl, (by intro w hSw; go_simp; try with_reducible rfl)⟩) (by assumption) ?_
    simp only [Act.put, List.getElem_toArray, List.getElem_cons_zero, List.getElem_cons_succ, List.setIfInBounds_toArray, List.set_cons_zero, List.set_cons_succ]
    refine wpAnyH_take (i := 6) (v := ?_) rfl (by kernel_rfl) (by kernel_rfl) (by kernel_rfl) (fun _ _ _ h => h) (Or.inl ⟨by rfl, (by intro w hSw; go_simp; try with_reducible rfl)⟩) (by assumption) ?_
    simp only [Act.put, List.getElem_toArray, List.getElem_cons_zero, List.getElem_cons_succ, List.setIfInBounds_toArray, List.set_cons_zero, List.set_cons_succ]
    refine wpAnyH_take (i := 7) (v := ?_) rfl (by kernel_rfl) (by kernel_rfl) (by kernel_rfl) (fun _ _ _ h => h) (Or.inl ⟨by rfl, (by intro w hSw; go_simp; try with_reducible rfl)⟩) (by assumption) ?_
    simp only [Act.put, List.getElem_toArray, List.getElem_cons_zero, List.getElem_cons_succ, List.setIfInBounds_toArray, List.set_cons_zero, List.set_cons_succ]
    refine wpAnyH_take (i := 8) (v := ?_) rfl (by kernel_rfl) (by kernel_rfl) (by kernel_rfl) (fun _ _ _ h => h) (Or.inl ⟨by rfl, (by intro w hSw; have c1 := hSw.c1; go_simp; try with_reducible rfl)⟩) (by assumption) ?_
    simp only [Act.put, List.getElem_toArray, List.getElem_cons_zero, List.getElem_cons_succ, List.setIfInBounds_toArray, List.set_cons_zero, List.set_cons_succ]
    refine wpAnyH_take (i := 9) (v := ?_) rfl (by kernel_rfl) (by kernel_rfl) (by kernel_rfl) (fun _ _ _ h => h) (Or.inl ⟨by rfl, (by intro w hSw; go_simp; try with_reducible rfl)⟩) (by assumption) ?_
    simp only [Act.put, List.getElem_toArray, List.getElem_cons_zero, List.getElem_cons_succ, List.setIfInBounds_toArray, List.set_cons_zero, List.set_cons_succ]
    refine wpAnyH_take (i := 10) (v := ?_) rfl (by kernel_rfl) (by kernel_rfl) (by kernel_rfl) (fun _ _ _ h => h) (Or.inl ⟨by rfl, (by intro w hSw; have lk := hSw.lk; go_simp; try with_reducible rfl)⟩) (by assumption) ?_
    simp only [Act.put, List.getElem_toArray, List.getElem_cons_zero, List.getElem_cons_succ, List.setIfInBounds_toArray, List.set_cons_zero, List.set_cons_succ]
    refine wpAnyH_take (i := 11) (v := .agg (secV (fill s)).toArray) rfl (by kernel_rfl) (by kernel_rfl) (by kernel_rfl) (fun _ _ _ h => h) (Or.inl ⟨by rfl, (by intro w hSw; refine exec_load (x := .tmp 8) (g := w1.heap.size) (o := 0) (by rfl) (by go_simp; try with_reducible rfl) hSw.range Hxz.out)⟩) (by assumption) ?_
    simp only [Act.put, List.getElem_toArray, List.getElem_cons_zero, List.getElem_cons_succ, List.setIfInBounds_toArray, List.set_cons_zero, List.set_cons_succ]
    refine wpAnyH_ready (rs := [12]) (by kernel_rfl) (by simp) ?_
    refine AllReadyH.cons rfl (fun K hK => ?_) AllReadyH.nil
    refine step_build (.tmp 35) (fill s) rfl (by rfl) (by go_simp; try with_reducible rfl) Hxz.out ?_
    go_simp
    refine hK.out _ _ (hS.out _ ((Kept.refl _ W).alloc _).drew) (fun hHeld => ?_)
    clear hK K
    refine wpAnyH_ready (rs := [13]) (by kernel_rfl) (by simp) ?_
    refine AllReadyH.cons rfl (fun K hK => ?_) AllReadyH.nil
    have hov := Hov2.out
    refine step_append_lies _ rfl (.tmp 34) (.tmp 36) 70 (by rfl) 0 93 i0 _ 64 64 Tryz.underlying70 hi hz0 hz1 hz2 (by rfl) (by decide) v t.length (secs t) (by rfl) hov.1 ⟨W.heap.size, 0, none⟩ 1 1 (secV (fill s)) (by rfl) Hx64.out Hnews.out (secV_one _) (by decide) Hmx.out Hby.out (Nat.zero_le _) (W.heap.size + 1) (by simp) ?_
    intro g cap w5 hown5 hgrow5 hat5 hlt5
    refine hK.out _ _ (hS.out _ (Hgrow.out _ hgrow5)) (fun hHeld5 => ?_)
    clear hK K
    refine wpAnyH_done (by kernel_rfl) ?_ _
    refine wpAny_of_held (S := fun _ => True) _ _ _ _ ?_
    have hHeld : True := trivial
    refine wpAnyH_ready (rs := [14]) (by kernel_rfl) (by simp) ?_
    refine AllReadyH.cons rfl (fun K hK => ?_) AllReadyH.nil
    obtain ⟨w6, hrun6, hm6, hturn6⟩ := (Hm.out w5 (Hgrow.out _ hgrow5)).store (t := 71) intKeyed Tryz.underlying71 Hn.out (key_of Hk.out) (val := .slice (some ⟨g, 0, none⟩) (t.length + 1) cap) (ps := []) rfl
    go_simp
    refine hK.out _ _ trivial (fun hHeld => ?_)
    clear hK K
    refine wpAnyH_done (by kernel_rfl) ?_ _
    go_wp2_with fail
    go_ret
    exact ⟨rfl, Hfinal.out w5 w6 g cap hown5 hgrow5 hat5 hlt5 hm6 hturn6.grown⟩
end
end Go.Proofs.YtbfjageaheijbaaGreat
/- The landed disk: a sector is read; a disk is made. -/
set_option linter.unusedSimpArgs false
set_option linter.unusedVariables false
namespace Go.Proofs.YtbfjageaheijbaaGreat
open Go.RowKit Dsk

section
variable {w : World} {F : Nat → Prop} {b bm : Nat} {sv : Value} {N : Nat} {M : DataW Value} {pv : Nat → Value} {d : D}

set_option maxRecDepth 100000 in
theorem read_no {v : Value} (h : At w F v d) (i : Int) (hd : openE d i ≠ 0) :
    Calls Tryz.prog 76 #[v, .int .i64 i] w fun e w' => e = .returned (.tuple #[.string (d.read i).1, .int .i64 (d.read i).2]) ∧ Does At w F v d w' := by
  have hsm := does_same h
  obtain ⟨b, bm, sv, N, M, pv, rfl, h⟩ := h
  have hop := open_any h i
  have Hop := Lib.hid hop
  have hw : d.read i = (⟨#[]⟩, openE d i) := by
    unfold D.read openE at *
    by_cases h1 : d.down = true
    · rw [if_pos h1, if_pos h1]
    · rw [if_neg h1, if_neg h1] at *
      by_cases h2 : i < 0 ∨ (d.S.length : Int) ≤ i
      · rw [if_pos h2, if_pos h2]
      · rw [if_neg h2] at hd; exact absurd rfl hd
  rw [hw]
  have Hsm := Lib.hid hsm
  clear hop hw h hsm
  generalize openE d i = oe at *
  have hb : (oe != 0) = true := by simpa using hd
  clear hd
  go_enter Tryz.func76, Tryz.ntmps76
  go_wp2_with (go_at_call 83; with_reducible refine Hop.out.mono ?_; rintro e w' ⟨rfl, rfl⟩)
  go_ret2
  exact ⟨rfl, Hsm.out⟩

set_option maxRecDepth 100000 in
/-- A sector is stored into a variable of its own. -/
theorem step_store {ops : Array Oper} {o : Oper} {a : Act} {w : World} {K : Act → World → Prop} {Q : Exit → Act → World → Prop} {E : Prop} (y z : Operand) {x : ByteArray} (hgd : o.guard = none) (ho : o.op = .store 93 y z) (hz : a.eval z = .agg (secV x).toArray)
    {g : Nat} (hy : a.eval y = .pointer (some ⟨g, 0, none⟩)) (hx : x.size = 64) (hg : w.heap[g]? = some (.cells (secV (fill ⟨#[]⟩)).toArray 93 (0, 0)))
    (h : K (a.put o.dst undef) (w.setRow g (secV x).toArray)) :
    if Region.wanted o (yielded ops a.tmps) = true then Oper.wp Tryz.prog o a w K Q else E := by
  have hw : Region.wanted o (yielded ops a.tmps) = true := by simp [Region.wanted, hgd]
  rw [if_pos hw]
  exact wp_store_row 93 y z ho g _ hy hz 93 _ hg (sec_size hx) (by rw [List.size_toArray, List.size_toArray, secV_len, secV_len, fill_nil, hx]) (all_oneCell_toArray (secV_one x)) h

set_option maxRecDepth 100000 in
/-- A sector's bytes as a text. -/
theorem sec_text {w : World} {g : Nat} {x : ByteArray} (hr : Row w g 93 (secV x).toArray) (hx : x.size = 64) : (convert 99 9 (.slice (some ⟨g, 0, none⟩) 64 64)).run Tryz.prog w = .ok (.string x) w := by
  have hl : x.data.toList.length = 64 := hx
  have := run_convert_bytes_back (P := Tryz.prog) w 99 9 5 ⟨g, 0, none⟩ 64 x.data.toList Tryz.underlying99 Tryz.underlying5 Tryz.underlying9 (fun j hj => by
    rw [Go.WideShapes.add_plain, Nat.zero_add, hr.at j, List.getElem?_toArray]
    unfold secV
    rw [List.getElem?_map, List.getElem?_eq_getElem hj]
    rfl)
  rw [hl] at this
  rw [this]

set_option maxRecDepth 100000 in
set_option maxHeartbeats 1600000 in
theorem read_ok (h : DAt w F b bm sv N M pv d) {k : Nat} {s0 : ByteArray} {t : List ByteArray} (hl : d.S[k]? = some (s0 :: t)) (hd : d.down = false) (hmx : t.length ≤ 1000000) :
    Calls Tryz.prog 76 #[.pointer (some ⟨b, 0, none⟩), .int .i64 (k : Int)] w fun e w' => e = .returned (.tuple #[.string (last (s0 :: t)), .int .i64 0]) ∧ Below w.heap.size w w' := by
  have hz := (zero_of_info secZero).1
  have hk := (List.getElem?_eq_some_iff.1 hl).1
  have hop := open_any h (k : Int)
  have e0 : openE d (k : Int) = 0 := by
    unfold openE
    rw [if_neg (by rw [hd]; decide), if_neg (by omega)]
  rw [e0] at hop
  have hbel : ∀ w', Below w.heap.size w w' → DAt w' F b bm sv N M pv d := fun w' hb => h.kept (Kept.ofBelow hb (fun _ => False)) (fun _ _ h => h)
  obtain ⟨g, cap, rfl, hg⟩ := h.safeForm
  obtain ⟨v, hv, hvo, -, -⟩ := h.held hl
  have h64 : All64 (s0 :: t) := h.all64 _ (List.mem_of_getElem? hl)
  have Hs0 : Hid (s0.size = 64) := Lib.hid (h64 s0 (by simp))
  have Hx64 : Hid ((last (s0 :: t)).size = 64) := Lib.hid (h64 _ (by
    have := last_get (l := s0 :: t) (by simp)
    exact List.mem_of_getElem? this))
  have Hmx := Lib.hid hmx
  have Hc0 : Hid (∀ w', Below w.heap.size w w' → w'.cell? ⟨b, 0, none⟩ = some (.slice (some ⟨g, 0, none⟩) d.S.length cap)) := Lib.hid (fun w' hb => (hbel w' hb).facts.1)
  have Hc1 : Hid (∀ w', Below w.heap.size w w' → w'.cell? ⟨b, 1, none⟩ = some (.map (some bm))) := Lib.hid (fun w' hb => (hbel w' hb).facts.2.1)
  have Hlk : Hid (∀ w', Below w.heap.size w w' → (Instr.lookup 71 (.map (some bm)) (.int .i64 (k : Int)) false).run Tryz.prog w' = .ok v w') := Lib.hid (fun w' hb => look_at (hbel w' hb).map (h.small hl) hv)
  have Hrg : Hid (∀ w', Below w.heap.size w w' → w'.rangeAt g (k * 64) (secV s0)) := Lib.hid (fun w' hb => by
    have h1 := (hbel w' hb).safe
    have h2 := heads_get hl
    rw [← heads_len] at h1
    exact h1.range h2)
  have How : Hid (∀ w', Below w.heap.size w w' → OwnS w' v t) := Lib.hid (fun w' hb => by
    obtain ⟨v', e1, p1, -, -⟩ := (hbel w' hb).held hl
    have : v' = v := by rw [hv] at e1; injection e1 with e1; exact e1.symm
    subst this
    exact p1)
  have k0 : (0 : Int) ≤ (k : Int) := by omega
  have k1 : (k : Int) < (d.S.length : Int) := by omega
  have Hop := Lib.hid hop
  have Hz := Lib.hid hz
  clear h hl hbel hop hz hv hvo h64 e0 hd hk hmx
  generalize d.S.length = len at *
  go_enter Tryz.func76, Tryz.ntmps76
  go_wp2_with (go_at_call 83; with_reducible refine Hop.out.mono ?_; rintro e w' ⟨rfl, rfl⟩)
  refine wp_region_held_drew (S := (Below w.heap.size w)) (by kernel_rfl) (Below.drew (Below.refl _ _)) (fun hHeld => ?_)
  refine wpAnyH_take (i := 0) (v := ?_) rfl (by kernel_rfl) (by kernel_rfl) (by kernel_rfl) (fun _ _ _ h => h) (Or.inl ⟨by rfl, (by intro w hSw; go_simp; try with_reducible rfl)⟩) (by assumption) ?_
  simp only [Act.put, List.getElem_toArray, List.getElem_cons_zero, List.getElem_cons_succ, List.setIfInBounds_toArray, List.set_cons_zero, List.set_cons_succ]
  refine wpAnyH_take (i := 1) (v := ?_) rfl (by kernel_rfl) (by kernel_rfl) (by kernel_rfl) (fun _ _ _ h => h) (Or.inl ⟨by rfl, (by intro w hSw; go_simp; try with_reducible rfl)⟩) (by assumption) ?_
  simp only [Act.put, List.getElem_toArray, List.getElem_cons_zero, List.getElem_cons_succ, List.setIfInBounds_toArray, List.set_cons_zero, List.set_cons_succ]
  refine wpAnyH_take (i := 2) (v := ?_) rfl (by kernel_rfl) (by kernel_rfl) (by kernel_rfl) (fun _ _ _ h => h) (Or.inl ⟨by rfl, (by intro w hSw; go_simp; try with_reducible rfl)⟩) (by assumption) ?_
  simp only [Act.put, List.getElem_toArray, List.getElem_cons_zero, List.getElem_cons_succ, List.setIfInBounds_toArray, List.set_cons_zero, List.set_cons_succ]
  refine wpAnyH_take (i := 3) (v := ?_) rfl (by kernel_rfl) (by kernel_rfl) (by kernel_rfl) (fun _ _ _ h => h) (Or.inl ⟨by rfl, (by intro w hSw; have c0 := Hc0.out w hSw; go_simp; try with_reducible rfl)⟩) (by assumption) ?_
  simp only [Act.put, List.getElem_toArray, List.getElem_cons_zero, List.getElem_cons_succ, List.setIfInBounds_toArray, List.set_cons_zero, List.set_cons_succ]
  refine wpAnyH_take (i := 4) (v := ?_) rfl (by kernel_rfl) (by kernel_rfl) (by kernel_rfl) (fun _ _ _ h => h) (Or.inl ⟨by rfl, (by intro w hSw; go_simp; try with_reducible rfl)⟩) (by assumption) ?_
  simp only [Act.put, List.getElem_toArray, List.getElem_cons_zero, List.getElem_cons_succ, List.setIfInBounds_toArray, List.set_cons_zero, List.set_cons_succ]
  refine wpAnyH_take (i := 5) (v := ?_) rfl (by kernel_rfl) (by kernel_rfl) (by kernel_rfl) (fun _ _ _ h => h) (Or.inl ⟨by rfl, (by intro w hSw; go_simp; try with_reducible rfl)⟩) (by assumption) ?_
  simp only [Act.put, List.getElem_toArray, List.getElem_cons_zero, List.getElem_cons_succ, List.setIfInBounds_toArray, List.set_cons_zero, List.set_cons_succ]
  refine wpAnyH_take (i := 6) (v := .agg (secV s0).toArray) rfl (by kernel_rfl) (by kernel_rfl) (by kernel_rfl) (fun _ _ _ h => h) (Or.inl ⟨by rfl, (by intro w hSw; refine exec_load (x := .tmp 19) (g := g) (o := k * 64) (by rfl) (by go_simp; try with_reducible rfl) (Hrg.out w hSw) Hs0.out)⟩) (by assumption) ?_
  simp only [Act.put, List.getElem_toArray, List.getElem_cons_zero, List.getElem_cons_succ, List.setIfInBounds_toArray, List.set_cons_zero, List.set_cons_succ]
  refine wpAnyH_take (i := 7) (v := ?_) rfl (by kernel_rfl) (by kernel_rfl) (by kernel_rfl) (fun _ _ _ h => h) (Or.inl ⟨by rfl, (by intro w hSw; go_simp; try with_reducible rfl)⟩) (by assumption) ?_
  simp only [Act.put, List.getElem_toArray, List.getElem_cons_zero, List.getElem_cons_succ, List.setIfInBounds_toArray, List.set_cons_zero, List.set_cons_succ]
  refine wpAnyH_take (i := 8) (v := ?_) rfl (by kernel_rfl) (by kernel_rfl) (by kernel_rfl) (fun _ _ _ h => h) (Or.inl ⟨by rfl, (by intro w hSw; go_simp; try with_reducible rfl)⟩) (by assumption) ?_
  simp only [Act.put, List.getElem_toArray, List.getElem_cons_zero, List.getElem_cons_succ, List.setIfInBounds_toArray, List.set_cons_zero, List.set_cons_succ]
  refine wpAnyH_take (i := 9) (v := ?_) rfl (by kernel_rfl) (by kernel_rfl) (by kernel_rfl) (fun _ _ _ h => h) (Or.inl ⟨by rfl, (by intro w hSw; go_simp; try with_reducible rfl)⟩) (by assumption) ?_
  simp only [Act.put, List.getElem_toArray, List.getElem_cons_zero, List.getElem_cons_succ, List.setIfInBounds_toArray, List.set_cons_zero, List.set_cons_succ]
  refine wpAnyH_take (i := 10) (v := ?_) rfl (by kernel_rfl) (by kernel_rfl) (by kernel_rfl) (fun _ _ _ h => h) (Or.inl ⟨by rfl, (by intro w hSw; have c1 := Hc1.out w hSw; go_simp; try with_reducible rfl)⟩) (by assumption) ?_
  simp only [Act.put, List.getElem_toArray, List.getElem_cons_zero, List.getElem_cons_succ, List.setIfInBounds_toArray, List.set_cons_zero, List.set_cons_succ]
  refine wpAnyH_take (i := 11) (v := ?_) rfl (by kernel_rfl) (by kernel_rfl) (by kernel_rfl) (fun _ _ _ h => h) (Or.inl ⟨by rfl, (by intro w hSw; go_simp; try with_reducible rfl)⟩) (by assumption) ?_
  simp only [Act.put, List.getElem_toArray, List.getElem_cons_zero, List.getElem_cons_succ, List.setIfInBounds_toArray, List.set_cons_zero, List.set_cons_succ]
  refine wpAnyH_take (i := 12) (v := ?_) rfl (by kernel_rfl) (by kernel_rfl) (by kernel_rfl) (fun _ _ _ h => h) (Or.inl ⟨by rfl, (by intro w hSw; have lk := Hlk.out w hSw; go_simp; try with_reducible rfl)⟩) (by assumption) ?_
  simp only [Act.put, List.getElem_toArray, List.getElem_cons_zero, List.getElem_cons_succ, List.setIfInBounds_toArray, List.set_cons_zero, List.set_cons_succ]
  refine wpAnyH_ready (rs := [13, 14]) (by kernel_rfl) (by simp) ?_
  refine (AllReadyH.cons rfl (fun K hK => ?_) (AllReadyH.cons rfl (fun K hK => ?_) AllReadyH.nil))
  · go_simp
    go_at_call 103
    have hl2 := last_any s0 Hs0.out (How.out _ hHeld) Hmx.out
    with_reducible refine hl2.mono ?_
    clear hl2
    rintro e w2 ⟨rfl, hb2⟩
    have hB2 := hHeld.trans (hb2.mono hHeld.size)
    have Hb2 := Lib.hid hb2
    clear hb2
    refine hK.out _ _ hB2 (fun hHeld2 => ?_)
    clear hK K
    refine wpAnyH_ready (rs := [14]) (by kernel_rfl) (by simp) ?_
    refine AllReadyH.cons rfl (fun K hK => ?_) AllReadyH.nil
    have hz := Hz.out
    go_simp
    refine hK.out _ _ (hHeld2.alloc hHeld2.size _) (fun hHeld2 => ?_)
    clear hz
    clear hK K
    refine wpAnyH_ready (rs := [15]) (by kernel_rfl) (by simp) ?_
    refine AllReadyH.cons rfl (fun K hK => ?_) AllReadyH.nil
    refine step_store (.tmp 7) (.tmp 27) (x := last (s0 :: t)) rfl (by rfl) (by go_simp; try with_reducible rfl) (g := w2.heap.size) (by go_simp; try with_reducible rfl) Hx64.out (heap_alloc_new w2 _) ?_
    refine hK.out _ _ (below_setRow hHeld2 Hb2.out.size _) (fun hHeld4 => ?_)
    clear hK K
    refine wpAnyH_done (by kernel_rfl) ?_ _
    have hR := setRow_heap (w2.alloc (.cells (secV (fill ⟨#[]⟩)).toArray 93)) w2.heap.size _ (secV (last (s0 :: t))).toArray 93 (0, 0) (heap_alloc_new w2 _)
    have hcv := sec_text hR Hx64.out
    clear hHeld hHeld2 hR
    have Hh4 := Lib.hid hHeld4
    clear hHeld4
    go_wp2_with fail
    go_ret2
    exact ⟨rfl, Hh4.out⟩
  · have hz := Hz.out
    go_simp
    refine hK.out _ _ (hHeld.alloc hHeld.size _) (fun hHeld => ?_)
    clear hz
    clear hK K
    refine wpAnyH_ready (rs := [13]) (by kernel_rfl) (by simp) ?_
    refine AllReadyH.cons rfl (fun K hK => ?_) AllReadyH.nil
    go_simp
    go_at_call 103
    have hl2 := last_any s0 Hs0.out (How.out _ hHeld) Hmx.out
    with_reducible refine hl2.mono ?_
    clear hl2
    rintro e w2 ⟨rfl, hb2⟩
    have hB2 := hHeld.trans (hb2.mono hHeld.size)
    have Hb2 := Lib.hid hb2
    clear hb2
    refine hK.out _ _ hB2 (fun hHeld2 => ?_)
    clear hK K
    refine wpAnyH_ready (rs := [15]) (by kernel_rfl) (by simp) ?_
    refine AllReadyH.cons rfl (fun K hK => ?_) AllReadyH.nil
    refine step_store (.tmp 7) (.tmp 27) (x := last (s0 :: t)) rfl (by rfl) (by go_simp; try with_reducible rfl) (g := w.heap.size) (by go_simp; try with_reducible rfl) Hx64.out ((Hb2.out.block w.heap.size (by simp)).trans (heap_alloc_new w _)) ?_
    refine hK.out _ _ (below_setRow hHeld2 (Nat.le_refl _) _) (fun hHeld4 => ?_)
    clear hK K
    refine wpAnyH_done (by kernel_rfl) ?_ _
    have hR := setRow_heap w2 w.heap.size _ (secV (last (s0 :: t))).toArray 93 (0, 0) ((Hb2.out.block w.heap.size (by simp)).trans (heap_alloc_new w _))
    have hcv := sec_text hR Hx64.out
    clear hHeld hHeld2 hR
    have Hh4 := Lib.hid hHeld4
    clear hHeld4
    go_wp2_with fail
    go_ret2
    exact ⟨rfl, Hh4.out⟩
end
end Go.Proofs.YtbfjageaheijbaaGreat
