/- The landed disk: a sector is written. -/
import Derived.Test.YtcgplonnhginiaaCom13
import Derived.Lib.BufferWrite
import Derived.Great.BuildSlice
set_option linter.unusedSimpArgs false
set_option linter.unusedVariables false
namespace Go.Proofs.Ytcgplonnhginiaa
open Go.RowKit Dsk

section
variable {w : World} {F : Nat → Prop} {b bm : Nat} {sv : Value} {N : Nat} {M : DataW Value} {pv : Nat → Value} {d : D}

set_option maxRecDepth 100000 in
theorem write_no {v : Value} (h : At w F v d) (i : Int) (s : ByteArray) (hs : s.size ≤ 9223372036854775807) (hd : ¬ d.down = true → ¬ (i < 0 ∨ (d.S.length : Int) ≤ i) → 64 < s.size) :
    Calls Try.prog 25 #[v, .int .i64 i, .string s] w fun e w' => e = .returned (.int .i64 (d.write i s).1) ∧ Does At w F v (d.write i s).2 w' := by
  have hsm := does_same h
  obtain ⟨b, bm, sv, N, M, pv, rfl, h⟩ := h
  have hop := open_any h i
  have Hop := Lib.hid hop
  have hw : d.write i s = ((if openE d i = 0 then 4 else openE d i), d) := by
    unfold D.write openE
    by_cases h1 : d.down = true
    · rw [if_pos h1, if_pos h1]; rfl
    · rw [if_neg h1, if_neg h1]
      by_cases h2 : i < 0 ∨ (d.S.length : Int) ≤ i
      · rw [if_pos h2, if_pos h2]; rfl
      · rw [if_neg h2, if_neg h2, if_pos (hd h1 h2)]; rfl
  rw [hw]
  have hz : openE d i = 0 → 64 < s.size := fun e => by
    unfold openE at e
    by_cases h1 : d.down = true
    · rw [if_pos h1] at e; cases e
    · rw [if_neg h1] at e
      by_cases h2 : i < 0 ∨ (d.S.length : Int) ≤ i
      · rw [if_pos h2] at e; cases e
      · exact hd h1 h2
  have Hsm := Lib.hid hsm
  clear hop hw h hd hsm
  generalize openE d i = oe at *
  by_cases h0 : oe = 0
  · subst h0
    have hz' := hz rfl
    have hb : decide ((s.size : Int) > 64) = true := by simp; omega
    clear hz
    go_enter Try.func25, Try.ntmps25
    go_wp2_with (go_at_call 40; with_reducible refine Hop.out.mono ?_; rintro e w' ⟨rfl, rfl⟩)
    go_ret
    exact ⟨rfl, Hsm.out⟩
  · rw [if_neg h0]
    have hb : (oe != 0) = true := by simpa using h0
    clear hz h0
    go_enter Try.func25, Try.ntmps25
    go_wp2_with (go_at_call 40; with_reducible refine Hop.out.mono ?_; rintro e w' ⟨rfl, rfl⟩)
    go_ret
    exact ⟨rfl, Hsm.out⟩

set_option maxRecDepth 100000 in
theorem fill_cells (s : ByteArray) (hs : s.size ≤ 64) : (((secV (fill ⟨#[]⟩)).toArray.toList.take 0 ++ Go.Lib.byteCells s.data.toList ++ (secV (fill ⟨#[]⟩)).toArray.toList.drop (0 + s.size)).toArray : Array Value) = (secV (fill s)).toArray := by
  congr 1
  rw [List.take_zero, List.nil_append, Nat.zero_add]
  have hl : s.data.toList.length = s.size := rfl
  show Go.Lib.byteCells s.data.toList ++ (((⟨#[]⟩ : ByteArray).data ++ Array.replicate (64 - (⟨#[]⟩ : ByteArray).size) 0).toList.map fun c : UInt8 => Value.int .u8 (c.toNat : Int)).drop s.size = ((s.data ++ Array.replicate (64 - s.size) 0).toList.map fun c : UInt8 => Value.int .u8 (c.toNat : Int))
  have e0 : (((⟨#[]⟩ : ByteArray).data ++ Array.replicate (64 - (⟨#[]⟩ : ByteArray).size) 0).toList : List UInt8) = List.replicate 64 0 := rfl
  rw [e0, Array.toList_append, List.map_append, Array.toList_replicate, List.map_replicate, List.map_replicate, List.drop_replicate]
  rfl

/-- While a sector's text is laid behind the others: W: the world behind the text's own block. -/
structure WS (w1 W : World) (b bm k : Nat) (v : Value) (x : ByteArray) (w' : World) : Prop where
  c1 : w'.cell? ⟨b, 1, none⟩ = some (.map (some bm))
  lk : (Instr.lookup 57 (.map (some bm)) (.int .i64 (k : Int)) false).run Try.prog w' = .ok v w'
  row : Row w' w1.heap.size 78 (secV x).toArray
  kept : Kept (fun i => v.ownBlock = some i) W w'

set_option maxRecDepth 100000 in
theorem WS.range {w1 W w' : World} {k : Nat} {v : Value} {x : ByteArray} (h : WS w1 W b bm k v x w') : w'.rangeAt w1.heap.size 0 (secV x) := fun j u hu => by
  rw [h.row.at (0 + j), Nat.zero_add, List.getElem?_toArray]
  exact hu

set_option maxRecDepth 100000 in
theorem WS.make {w1 W : World} {k : Nat} {v : Value} {x : ByteArray} (h : DAt W F b bm sv N M pv d) (hk : k ≤ 1000000) (hv : M.atKey (key k) (.held (.slice none 0 0)) = .held v) (hb : v.ownBlock ≠ some b) (hm : v.ownBlock ≠ some bm)
    (hr : Row W w1.heap.size 78 (secV x).toArray) (hne : v.ownBlock ≠ some w1.heap.size) {w' : World} (hk2 : Kept (fun i => v.ownBlock = some i) W w') : WS w1 W b bm k v x w' :=
  ⟨(hk2.cell (p := ⟨b, 1, none⟩) h.lt hb).trans h.facts.2.1, look_at (ownsMap_kept h.map hk2 hm) hk hv, hr.kept hk2 hne, hk2⟩

set_option maxRecDepth 100000 in
theorem exec_load {w : World} {f : Operand → Value} {op : Oper} {x : Operand} {g o : Nat} {s : ByteArray} (ho : op.op = .load 78 x) (hx : f x = .pointer (some ⟨g, o, none⟩)) (hr : w.rangeAt g o (secV s)) (hs : s.size = 64) :
    (execOp f op).run Try.prog w = .ok (.value (.agg (secV s).toArray)) w := by
  have h := load_sec hr hs
  unfold execOp
  simp only [ho, hx, Sem.run_bind, Result.andThen_ok, h]
  rfl

set_option maxRecDepth 100000 in
/-- One sector, laid into a slice of its own. -/
theorem step_build {ops : Array Oper} {o : Oper} {a : Act} {w : World} {K : Act → World → Prop} {Q : Exit → Act → World → Prop} {E : Prop} (x : Operand) (s : ByteArray) (hgd : o.guard = none) (ho : o.op = .buildSlice 56 1 #[(0, x)]) (hx : a.eval x = .agg (secV s).toArray) (hs : s.size = 64)
    (h : K (a.put o.dst (.slice (some ⟨w.heap.size, 0, none⟩) 1 1)) (w.alloc (.cells (secV s).toArray 78))) :
    if Region.wanted o (yielded ops a.tmps) = true then Oper.wp Try.prog o a w K Q else E := by
  have hw : Region.wanted o (yielded ops a.tmps) = true := by simp [Region.wanted, hgd]
  rw [if_pos hw]
  obtain ⟨i0, hi, hz0, hz1, hz2⟩ := info_parts secInfo3
  have hl : (secV s).length = 64 := by rw [secV_len, hs]
  refine wp_buildSlice 56 78 1 _ ho (secV s).toArray i0 _ Try.underlying56 hi hz0 (by rw [hz1]; decide) (by rw [hz1]; decide) ?_ h
  have hp : ((#[(0, x)] : Array (Nat × Operand)).map fun (i, x) => (i, a.eval x)).toList = [(0, Value.agg (secV s).toArray)] := by simp [hx]
  rw [hp, hz1]
  have := Great.fill_whole (s := 64) (by decide) [Value.agg (secV s).toArray] ((Array.range (1 * 64)).map ((Value.agg (secV (fill ⟨#[]⟩)).toArray).cells[· % (Value.agg (secV (fill ⟨#[]⟩)).toArray).cells.size]!)) (fun v hv => by rw [List.mem_singleton.1 hv]; simp [Value.cells, hl]) (by simp)
  simpa [Value.cells] using this

set_option maxRecDepth 100000 in
set_option maxHeartbeats 1600000 in
theorem write_ok (h : DAt w F b bm sv N M pv d) {k : Nat} (hk : k < d.S.length) (s : ByteArray) (hs : s.size ≤ 64) (hc : d.calls ≤ 100000) (ha : d.armed < 9223372036854775808) (hd : d.down = false) (hmx : (d.at k).length ≤ 100001) :
    Calls Try.prog 25 #[.pointer (some ⟨b, 0, none⟩), .int .i64 (k : Int), .string s] w fun e w' => e = .returned (.int .i64 (d.write k s).1) ∧ Does At w F (.pointer (some ⟨b, 0, none⟩)) (d.write k s).2 w' := by
  obtain ⟨i0, hi, hz0, hz1, hz2⟩ := info_parts secInfo3
  have hz := (zero_of_info secZero).1
  have hop := open_any h (k : Int)
  have e0 : openE d (k : Int) = 0 := by
    unfold openE
    rw [if_neg (by rw [hd]; decide), if_neg (by omega)]
  rw [e0] at hop
  have hw : d.write k s = if d.call.down = true then (12, d.call) else (0, { d.call with S := d.S.set k (d.at k ++ [fill s]) }) := by
    unfold D.write
    rw [if_neg (by rw [hd]; decide), if_neg (by omega), if_neg (by omega), Int.toNat_natCast]
  rw [hw]
  have hcall := call_any h (by omega) ha hd
  have hb : decide ((s.size : Int) > 64) = false := by simp; omega
  have hsz' : (s.size : Int) ≤ 64 := by omega
  have fin0 : Hid (d.call.down = true → ∀ w', DAt w' F b bm sv N M pv d.call → w.grownBy w' (some b) → Does At w F (.pointer (some ⟨b, 0, none⟩)) d.call w') := Lib.hid (fun _ w' h1 h2 =>
    ⟨⟨b, bm, sv, N, M, pv, rfl, h1.mono (fun _ hi => Or.inl hi)⟩, Kept.ofGrown h2 (fun i e => by injection e with e; subst e; exact h.inB)⟩)
  have hl : d.S[k]? = some (d.at k) := by
    unfold D.at
    rw [List.getD_eq_getElem?_getD, List.getElem?_eq_getElem hk]; rfl
  have hk6 := h.small hl
  obtain ⟨s0, t, hst⟩ : ∃ s0 t, d.at k = s0 :: t := by
    cases e : d.at k with
    | nil => have := h.full _ (List.mem_of_getElem? hl); rw [e] at this; cases this
    | cons a r => exact ⟨a, r, rfl⟩
  rw [hst] at hl hmx hw ⊢
  have hx64 : (fill s).size = 64 := fill_size s hs
  have hmx : t.length + 1 ≤ 100001 := hmx
  have Hop := Lib.hid hop
  have Hcall := Lib.hid hcall
  have Hh := Lib.hid h
  have Hx64 : Hid ((secV (fill s)).length = 1 * 64) := Lib.hid (by rw [secV_len, hx64])
  have Hsl : Hid ((Try.prog.info? 78).map (·.size) = some (secV (fill s)).length) := Lib.hid (by rw [secV_len, hx64]; exact secInfo)
  have Hmx : Hid (t.length + 1 ≤ maxLen) := Lib.hid (by unfold maxLen; omega)
  have Hby : Hid ((t.length + 1) * 64 ≤ 140737488355328) := Lib.hid (by omega)
  have Hk := Lib.hid hk6
  have Hn : Hid (N < maxLen) := Lib.hid (by have := h.big; unfold maxLen; omega)
  have Hl := Lib.hid hl
  have Hxz := Lib.hid hx64
  have hcs : Hid (∀ (w1 : World) (ty : TypeId), (Builtin.copy_ #[64, 9] ty #[.slice (some ⟨w1.heap.size, 0, none⟩) 64 64, .string s]).run Try.prog (w1.alloc (.cells (secV (fill ⟨#[]⟩)).toArray 78)) = .ok (goInt s.size) (w1.alloc (.cells (secV (fill s)).toArray 78))) := Lib.hid (fun w1 ty => by
    have hu : Try.prog.underlying 64 = some (.slice 5) := Try.underlying64
    have hs1 : (Try.prog.info? 5).map (·.size) = some 1 := by kernel_rfl
    have := Lib.run_copy_row_string (P := Try.prog) (w1.alloc (.cells (secV (fill ⟨#[]⟩)).toArray 78)) 64 9 ty 5 w1.heap.size 0 64 64 s _ 78 hu hs1 (heap_alloc_new w1 _) hs (by rw [List.size_toArray, secV_len, fill_nil]; omega)
    rw [this, fill_cells s hs, World.setRow_alloc_new])
  have Hz := Lib.hid hz
  have hkI : (k : Int) ≤ 1000000 := by omega
  have hck : d.call.S = d.S := rfl
  have hcc : d.call.calls = d.calls + 1 := rfl
  have fin1 : Hid (∀ (w1 w5 w6 : World) (v : Value) (g cap : Nat), DAt w1 F b bm sv N M pv d.call → w.grownBy w1 (some b) → M.atKey (key k) (.held (.slice none 0 0)) = .held v →
      OwnS w5 (.slice (some ⟨g, 0, none⟩) (t.length + 1) cap) (t ++ [fill s]) → Kept (fun i => v.ownBlock = some i) w1 w5 → (v.ownBlock = some g ∨ w1.heap.size ≤ g) → g < w5.heap.size →
      w6.ownsMap Try.prog 3 rawElem bm (N + 1) (M.put (key k) (.held (.slice (some ⟨g, 0, none⟩) (t.length + 1) cap))) → w5.grownBy w6 (some bm) →
      Does At w F (.pointer (some ⟨b, 0, none⟩)) { d.call with S := d.S.set k (s0 :: t ++ [fill s]) } w6) := Lib.hid (fun w1 w5 w6 v g cap h1 hg1 hv ho hk1 hat hlt hmp hg2 => by
    have hp := h1.put (k := k) (l := s0 :: t) hl hx64 hv (c := d.call.calls) (a := d.call.armed) (q := d.call.down) ho hk1 hat hlt hmp hg2 h1.blk (by rw [hcc]; have := h.big; omega)
    have hkk : Kept F w w6 := by
      have k1 : Kept F w w1 := Kept.ofGrown hg1 (fun i e => by injection e with e; subst e; exact h.inB)
      have k2 : Kept F w1 w5 := hk1.mono (fun i hi => by
        obtain ⟨v', e1, -, p2, p3⟩ := h1.held (k := k) hl
        have : v' = v := by rw [hv] at e1; injection e1 with e1; exact e1.symm
        subst this
        by_cases hp : 1 < (s0 :: t).length
        · rw [p2 hp] at hi
          exact (h1.inP k _ i hl hp hi).1
        · rw [p3 hp] at hi; cases hi)
      have k3 : Kept F w5 w6 := Kept.ofGrown hg2 (fun i e => by injection e with e; subst e; exact h.inM)
      exact (k1.trans k2 (fun _ _ h => h)).trans k3 (fun _ _ h => h)
    refine ⟨⟨b, bm, sv, N + 1, _, _, rfl, hp.mono (fun i hi => Grow.later hi ?_)⟩, hkk⟩
    exact hg1.size)
  clear hop hcall h hw hz hx64 hl hmx hk6 hst e0 hck hcc ha hs
  by_cases hq : d.call.down = true
  · rw [if_pos hq]
    have Fq : Hid (∀ w', DAt w' F b bm sv N M pv d.call → w.grownBy w' (some b) → Does At w F (.pointer (some ⟨b, 0, none⟩)) d.call w') := Lib.hid (fin0.out hq)
    have hcall := Hcall.out
    rw [hq] at hcall
    have Hcall2 := Lib.hid hcall
    clear hq hcall
    go_enter Try.func25, Try.ntmps25
    go_wp2_with (go_at_call 40; with_reducible refine Hop.out.mono ?_; rintro e w' ⟨rfl, rfl⟩)
    refine Hcall2.out.mono ?_
    rintro e w1 ⟨rfl, h1, hg1⟩
    have f := Fq.out _ h1 hg1
    have Ff := Lib.hid f
    clear f h1 hg1
    go_wp2_with fail
    go_ret
    exact ⟨rfl, Ff.out⟩
  · rw [if_neg hq]
    have hqf : d.call.down = false := by simpa using hq
    have hcall := Hcall.out
    rw [hqf] at hcall
    have Hcall2 := Lib.hid hcall
    clear hq hqf hcall
    have Hd := Lib.hid hd
    clear hd
    go_enter Try.func25, Try.ntmps25
    go_wp2_with (go_at_call 40; with_reducible refine Hop.out.mono ?_; rintro e w' ⟨rfl, rfl⟩)
    refine Hcall2.out.mono ?_
    rintro e w1 ⟨rfl, h1, hg1⟩
    have H1 := Lib.hid h1
    have Hg1 := Lib.hid hg1
    clear h1 hg1
    have hcp := hcs.out w1
    have hz := Hz.out
    obtain ⟨v, hv, hvo, hvp, hvn⟩ := H1.out.held (k := k) Hl.out
    have hvb : v.ownBlock ≠ some b ∧ v.ownBlock ≠ some bm ∧ ∀ i, v.ownBlock = some i → i < w1.heap.size := by
      by_cases hp : 1 < (s0 :: t).length
      · obtain ⟨q1, q2, q3⟩ := H1.out.ne
        refine ⟨fun e => ?_, fun e => ?_, fun i hi => ?_⟩
        · rw [hvp hp] at e; exact (H1.out.inP k _ b Hl.out hp e).2.1 rfl
        · rw [hvp hp] at e; exact q3 k _ bm Hl.out hp e rfl
        · obtain ⟨cur, hc⟩ := ownS_block hvo hi; exact lt_of_block hc
      · rw [hvn hp]
        exact ⟨fun e => (by cases e), fun e => (by cases e), fun i hi => (by cases hi)⟩
    obtain ⟨hvb1, hvb2, hvb3⟩ := hvb
    have hW : DAt (w1.alloc (.cells (secV (fill s)).toArray 78)) F b bm sv N M pv d.call := H1.out.kept ((Kept.refl (fun _ => False) w1).alloc _) (fun _ _ h => h)
    have hS : Hid (∀ w', Kept (fun i => v.ownBlock = some i) (w1.alloc (.cells (secV (fill s)).toArray 78)) w' → WS w1 (w1.alloc (.cells (secV (fill s)).toArray 78)) b bm k v (fill s) w') := Lib.hid (fun w' hk2 =>
      WS.make hW Hk.out hv hvb1 hvb2 (Row.made _ _ _) (fun e => by have := hvb3 _ e; omega) hk2)
    have hS0 := hS.out _ (Kept.refl _ _)
    have Hov : Hid (∀ w', Kept (fun _ => False) w1 w' → OwnS w' v t) := Lib.hid (fun w' hk => hvo.kept hk (fun _ _ h => h))
    have Hown : Hid (∀ i, v.ownBlock = some i → i < w1.heap.size) := Lib.hid hvb3
    have Hv := Lib.hid hv
    have Hm : Hid (∀ w', Kept (fun i => v.ownBlock = some i) (w1.alloc (.cells (secV (fill s)).toArray 78)) w' → w'.ownsMap Try.prog 3 rawElem bm N M) := Lib.hid (fun w' hk => ownsMap_kept hW.map hk hvb2)
    clear hvo hvp hvn hv hvb1 hvb2 hvb3 hW
    go_wp2_with fail
    generalize hWW : w1.alloc (.cells (secV (fill s)).toArray 78) = W at *
    have hWs : W.heap.size = w1.heap.size + 1 := by rw [← hWW]; simp
    have HWs := Lib.hid hWs
    have Hk1 : Hid (Kept (fun _ => False) w1 W) := Lib.hid (by rw [← hWW]; exact (Kept.refl _ _).alloc _)
    have Hnews : Hid (∀ j u, (secV (fill s))[j]? = some u → ((W.alloc (.cells (secV (fill s)).toArray 78)).drew).cell? ((⟨W.heap.size, 0, none⟩ : Addr).add j) = some u) := Lib.hid (fun j u hu => by
      have := World.news_of_block (w := (W.alloc (.cells (secV (fill s)).toArray 78)).drew) (heap_alloc_new W _) j u (by simpa using hu)
      exact this)
    have Hov2 : Hid (OwnS ((W.alloc (.cells (secV (fill s)).toArray 78)).drew) v t) := Lib.hid (Hov.out _ (((Hk1.out).alloc _).drew))
    have Hfinal : Hid (∀ (w5 w6 : World) (g cap : Nat), w5.ownsRow 0 78 64 (.slice (some ⟨g, 0, none⟩) (t.length + 1) cap) (t.length + 1) (secs t ++ secV (fill s)) → ((W.alloc (.cells (secV (fill s)).toArray 78)).drew).grownBy w5 v.ownBlock → (v.ownBlock = some g ∨ g = W.heap.size + 1) → g < w5.heap.size →
        w6.ownsMap Try.prog 3 rawElem bm (N + 1) (M.put (key k) (.held (.slice (some ⟨g, 0, none⟩) (t.length + 1) cap))) → w5.grownBy w6 (some bm) →
        Does At w F (.pointer (some ⟨b, 0, none⟩)) { d.call with S := d.S.set k (s0 :: (t ++ [fill s])) } w6) := Lib.hid (fun w5 w6 g cap h5 hg5 hat hlt hm hg6 => by
      refine fin1.out w1 w5 w6 v g cap H1.out Hg1.out Hv.out ⟨?_, ?_⟩ ?_ ?_ hlt hm hg6
      · have e : secs t ++ secV (fill s) = secs (t ++ [fill s]) := by rw [secs_append]; simp [secs]
        rw [← e, List.length_append]
        exact h5
      · intro x hx
        rcases List.mem_append.1 hx with hx | hx
        · exact Hov2.out.2 x hx
        · rw [List.mem_singleton.1 hx]; exact Hxz.out
      · exact (((Hk1.out.alloc _).drew).mono (fun _ h => h.elim)).trans (Kept.ofGrown hg5 (fun i e => e)) (fun _ _ h => h)
      · rcases hat with h | h
        · exact Or.inl h
        · exact Or.inr (by omega))
    have Hgrow : Hid (∀ w5, ((W.alloc (.cells (secV (fill s)).toArray 78)).drew).grownBy w5 v.ownBlock → Kept (fun i => v.ownBlock = some i) W w5) := Lib.hid (fun w5 hg5 =>
      (((Kept.refl (fun i => v.ownBlock = some i) W).alloc _).drew).trans (Kept.ofGrown hg5 (fun i e => e)) (fun _ _ h => h))
    have hS1 : WS w1 W b bm k v (fill s) W.drew := hS.out _ (Kept.refl _ W).drew
    have Hcp := Lib.hid hcp
    clear hcp hS0 hWW hWs
    refine wp_region_tail (n := 14) (S := (WS w1 W b bm k v (fill s))) (by kernel_rfl) (by kernel_rfl) (by rfl) hS1 (fun hHeld => ?_)
    refine wpAnyH_take (i := 0) (v := ?_) rfl (by kernel_rfl) (by kernel_rfl) (by kernel_rfl) (fun _ _ _ h => h) (Or.inl ⟨by rfl, (by intro w hSw; go_simp; try with_reducible rfl)⟩) (by assumption) ?_
    simp only [Act.put, List.getElem_toArray, List.getElem_cons_zero, List.getElem_cons_succ, List.setIfInBounds_toArray, List.set_cons_zero, List.set_cons_succ]
    refine wpAnyH_take (i := 1) (v := ?_) rfl (by kernel_rfl) (by kernel_rfl) (by kernel_rfl) (fun _ _ _ h => h) (Or.inl ⟨by rfl, (by intro w hSw; go_simp; try with_reducible rfl)⟩) (by assumption) ?_
    simp only [Act.put, List.getElem_toArray, List.getElem_cons_zero, List.getElem_cons_succ, List.setIfInBounds_toArray, List.set_cons_zero, List.set_cons_succ]
    refine wpAnyH_take (i := 2) (v := ?_) rfl (by kernel_rfl) (by kernel_rfl) (by kernel_rfl) (fun _ _ _ h => h) (Or.inl ⟨by rfl, (by intro w hSw; go_simp; try with_reducible rfl)⟩) (by assumption) ?_
    simp only [Act.put, List.getElem_toArray, List.getElem_cons_zero, List.getElem_cons_succ, List.setIfInBounds_toArray, List.set_cons_zero, List.set_cons_succ]
    refine wpAnyH_take (i := 3) (v := ?_) rfl (by kernel_rfl) (by kernel_rfl) (by kernel_rfl) (fun _ _ _ h => h) (Or.inl ⟨by rfl, (by intro w hSw; have c1 := hSw.c1; go_simp; try with_reducible rfl)⟩) (by assumption) ?_
    simp only [Act.put, List.getElem_toArray, List.getElem_cons_zero, List.getElem_cons_succ, List.setIfInBounds_toArray, List.set_cons_zero, List.set_cons_succ]
    refine wpAnyH_take (i := 4) (v := ?_) rfl (by kernel_rfl) (by kernel_rfl) (by kernel_rfl) (fun _ _ _ h => h) (Or.inl ⟨by rfl, (by intro w hSw; go_simp; try with_reducible rfl)⟩) (by assumption) ?_
    simp only [Act.put, List.getElem_toArray, List.getElem_cons_zero, List.getElem_cons_succ, List.setIfInBounds_toArray, List.set_cons_zero, List.set_cons_succ]
    refine wpAnyH_take (i := 5) (v := ?_) rfl (by kernel_rfl) (by kernel_rfl) (by kernel_rfl) (fun _ _ _ h => h) (Or.inl ⟨by rfl, (by intro w hSw; go_simp; try with_reducible rfl)⟩) (by assumption) ?_
    simp only [Act.put, List.getElem_toArray, List.getElem_cons_zero, List.getElem_cons_succ, List.setIfInBounds_toArray, List.set_cons_zero, List.set_cons_succ]
    refine wpAnyH_take (i := 6) (v := ?_) rfl (by kernel_rfl) (by kernel_rfl) (by kernel_rfl) (fun _ _ _ h => h) (Or.inl ⟨by rfl, (by intro w hSw; go_simp; try with_reducible rfl)⟩) (by assumption) ?_
    simp only [Act.put, List.getElem_toArray, List.getElem_cons_zero, List.getElem_cons_succ, List.setIfInBounds_toArray, List.set_cons_zero, List.set_cons_succ]
    refine wpAnyH_take (i := 7) (v := ?_) rfl (by kernel_rfl) (by kernel_rfl) (by kernel_rfl) (fun _ _ _ h => h) (Or.inl ⟨by rfl, (by intro w hSw; go_simp; try with_reducible rfl)⟩) (by assumption) ?_
    simp only [Act.put, List.getElem_toArray, List.getElem_cons_zero, List.getElem_cons_succ, List.setIfInBounds_toArray, List.set_cons_zero, List.set_cons_succ]
    refine wpAnyH_take (i := 8) (v := ?_) rfl (by kernel_rfl) (by kernel_rfl) (by kernel_rfl) (fun _ _ _ h => h) (Or.inl ⟨by rfl, (by intro w hSw; have c1 := hSw.c1; go_simp; try with_reducible rfl)⟩) (by assumption) ?_
    simp only [Act.put, List.getElem_toArray, List.getElem_cons_zero, List.getElem_cons_succ, List.setIfInBounds_toArray, List.set_cons_zero, List.set_cons_succ]
    refine wpAnyH_take (i := 9) (v := ?_) rfl (by kernel_rfl) (by kernel_rfl) (by kernel_rfl) (fun _ _ _ h => h) (Or.inl ⟨by rfl, (by intro w hSw; go_simp; try with_reducible rfl)⟩) (by assumption) ?_
    simp only [Act.put, List.getElem_toArray, List.getElem_cons_zero, List.getElem_cons_succ, List.setIfInBounds_toArray, List.set_cons_zero, List.set_cons_succ]
    refine wpAnyH_take (i := 10) (v := ?_) rfl (by kernel_rfl) (by kernel_rfl) (by kernel_rfl) (fun _ _ _ h => h) (Or.inl ⟨by rfl, (by intro w hSw; have lk := hSw.lk; go_simp; try with_reducible rfl)⟩) (by assumption) ?_
    simp only [Act.put, List.getElem_toArray, List.getElem_cons_zero, List.getElem_cons_succ, List.setIfInBounds_toArray, List.set_cons_zero, List.set_cons_succ]
    refine wpAnyH_take (i := 11) (v := .agg (secV (fill s)).toArray) rfl (by kernel_rfl) (by kernel_rfl) (by kernel_rfl) (fun _ _ _ h => h) (Or.inl ⟨by rfl, (by intro w hSw; refine exec_load (x := .tmp 8) (g := w1.heap.size) (o := 0) (by rfl) (by go_simp; try with_reducible rfl) hSw.range Hxz.out)⟩) (by assumption) ?_
    simp only [Act.put, List.getElem_toArray, List.getElem_cons_zero, List.getElem_cons_succ, List.setIfInBounds_toArray, List.set_cons_zero, List.set_cons_succ]
    refine wpAnyH_ready (rs := [12]) (by kernel_rfl) (by simp) ?_
    refine AllReadyH.cons rfl (fun K hK => ?_) AllReadyH.nil
    refine step_build (.tmp 35) (fill s) rfl (by rfl) (by go_simp; try with_reducible rfl) Hxz.out ?_
    go_simp
    refine hK.out _ _ (hS.out _ ((Kept.refl _ W).alloc _).drew) (fun hHeld => ?_)
    clear hK K
    refine wpAnyH_ready (rs := [13]) (by kernel_rfl) (by simp) ?_
    refine AllReadyH.cons rfl (fun K hK => ?_) AllReadyH.nil
    have hov := Hov2.out
    refine step_append_lies _ rfl (.tmp 34) (.tmp 36) 56 (by rfl) 0 78 i0 _ 64 64 Try.underlying56 hi hz0 hz1 hz2 (by rfl) (by decide) v t.length (secs t) (by rfl) hov.1 ⟨W.heap.size, 0, none⟩ 1 1 (secV (fill s)) (by rfl) Hx64.out Hnews.out (secV_one _) (by decide) Hmx.out Hby.out (Nat.zero_le _) (W.heap.size + 1) (by simp) ?_
    intro g cap w5 hown5 hgrow5 hat5 hlt5
    refine hK.out _ _ (hS.out _ (Hgrow.out _ hgrow5)) (fun hHeld5 => ?_)
    clear hK K
    refine wpAnyH_done (by kernel_rfl) ?_ _
    refine wpAny_of_held (S := fun _ => True) _ _ _ _ ?_
    have hHeld : True := trivial
    refine wpAnyH_ready (rs := [14]) (by kernel_rfl) (by simp) ?_
    refine AllReadyH.cons rfl (fun K hK => ?_) AllReadyH.nil
    obtain ⟨w6, hrun6, hm6, hturn6⟩ := (Hm.out w5 (Hgrow.out _ hgrow5)).store (t := 57) intKeyed Try.underlying57 Hn.out (key_of Hk.out) (val := .slice (some ⟨g, 0, none⟩) (t.length + 1) cap) (ps := []) rfl
    go_simp
    refine hK.out _ _ trivial (fun hHeld => ?_)
    clear hK K
    refine wpAnyH_done (by kernel_rfl) ?_ _
    go_wp2_with fail
    go_ret
    exact ⟨rfl, Hfinal.out w5 w6 g cap hown5 hgrow5 hat5 hlt5 hm6 hturn6.grown⟩
end
end Go.Proofs.Ytcgplonnhginiaa
