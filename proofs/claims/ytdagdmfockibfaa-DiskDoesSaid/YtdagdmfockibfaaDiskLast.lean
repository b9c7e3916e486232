/- The landed disk: what stands in a sector; one more copy of sectors. -/
import Derived.Test.YtdagdmfockibfaaDiskSec
import Derived.Deep.AppendLies
import Derived.WalkSpells
import Derived.Laws.CopyOwn
set_option linter.unusedSimpArgs false
set_option linter.unusedVariables false
namespace Go.Proofs.Ytdagdmfockibfaa
open Go.RowKit Dsk

theorem secInfo : (Try.prog.info? 71).map (·.size) = some 64 := by kernel_rfl
theorem secZero : (Try.prog.info? 71).map (fun i => (i.zero, i.size)) = some (some (.agg (secV (fill ⟨#[]⟩)).toArray), 64) := by kernel_rfl

theorem load_sec {w : World} {g o : Nat} {s : ByteArray} (h : w.rangeAt g o (secV s)) (hs : s.size = 64) : (Instr.loadAt 71 (.pointer (some ⟨g, o, none⟩))).run Try.prog w = .ok (.agg (secV s).toArray) w :=
  run_loadAt_mid w g o _ _ _ h Try.underlying71 rfl (by rw [secV_len, hs]; exact secInfo)

theorem last_snoc (l : List ByteArray) (s : ByteArray) : last (l ++ [s]) = s := by simp [last]

theorem last_get {l : List ByteArray} (h : 0 < l.length) : l[l.length - 1]? = some (last l) := by
  unfold last
  rw [List.getLastD_eq_getLast?, List.getLast?_eq_getElem?, List.getElem?_eq_getElem (by omega)]
  rfl

theorem sec_size {s : ByteArray} (hs : s.size = 64) : (Try.prog.info? 71).map (·.size) = some (secV s).toArray.size := by
  rw [List.size_toArray, secV_len, hs]; exact secInfo

theorem fill_nil : (fill ⟨#[]⟩).size = 64 := fill_size _ (by decide)

set_option maxRecDepth 100000 in
theorem last_any {w : World} {pv : Value} {L : List ByteArray} (s : ByteArray) (hs : s.size = 64) (h : OwnS w pv L) (hm : L.length ≤ 1000000) :
    Calls Try.prog 32 #[.agg (secV s).toArray, pv] w fun e w' => e = .returned (.agg (secV (last (s :: L))).toArray) ∧ Below w.heap.size w w' := by
  have hz := (zero_of_info secZero).1
  have hbel : ∀ a b c : Array Value, Below w.heap.size w (((w.alloc (.cells a 71)).alloc (.cells b 71)).setRow (w.heap.size + 1) c) := fun a b c => below_setRow (((Below.refl _ _).alloc (Nat.le_refl _) _).alloc (by simp) _) (Nat.le_succ _) _
  have Hbel := Lib.hid hbel
  clear hbel
  by_cases hp : 0 < L.length
  · obtain ⟨g, cap, rfl, hg⟩ := h.form hp
    have hr := h.range (last_get hp)
    have e : last (s :: L) = last L := by
      cases L with
      | nil => cases hp
      | cons x L => rfl
    rw [e]
    have hb : decide ((L.length : Int) > 0) = true := by simpa using hp
    have h64 : (last L).size = 64 := h.2 _ (List.mem_of_getElem? (last_get hp))
    have k0 : (0 : Int) ≤ (L.length : Int) - 1 := by omega
    have k1 : (L.length : Int) - 1 < (L.length : Int) := by omega
    have kw : ((L.length : Int) - 1).toNat = L.length - 1 := by omega
    generalize last L = t at *
    have hld := World.rangeAt_alloc (World.rangeAt_alloc hr (.cells (secV s).toArray 71)) (.cells (secV (fill ⟨#[]⟩)).toArray 71)
    have hsz := sec_size h64
    have hsl : (Try.prog.info? 71).map (·.size) = some (secV t).length := by rw [secV_len, h64]; exact secInfo
    have Hsz := Lib.hid hsz
    have Hsl := Lib.hid hsl
    have Hld := Lib.hid hld
    have Hz := Lib.hid hz
    clear e hr h hsz hsl hld hz
    go_enter Try.func32, Try.ntmps32
    have hz := Hz.out
    go_wp2_with (first | refine wpList_load_mid rfl 71 (.tmp 13) (by rfl) g ((L.length - 1) * 64) (by rfl) (secV t) _ Hld.out Try.underlying71 rfl Hsl.out ?_ | refine wpList_store_row rfl 71 (.tmp 4) (.tmp 14) (by rfl) (w.heap.size + 1) _ (by rfl) (by rfl) 71 _ (heap_alloc2_new w _ _) Hsz.out (by rw [List.size_toArray, List.size_toArray, secV_len, secV_len, fill_nil, h64]) (all_oneCell_toArray (secV_one _)) ?_)

    exact bodyPost_ret (v := .agg (secV t).toArray) (results_cell_row (by rfl) _ _ (w.heap.size + 1) 71 _ (0, 0) _ (by rfl) (setRow_heap _ _ _ _ _ _ (heap_alloc2_new w _ _)) Try.underlying71 rfl Hsz.out) rfl ⟨rfl, Hbel.out _ _ _⟩
  · have hL : L = [] := List.eq_nil_of_length_eq_zero (by omega)
    subst hL
    obtain ⟨A, cap, rfl⟩ := h.any
    have hr : (w.alloc (.cells (secV s).toArray 71)).rangeAt w.heap.size 0 (secV s) := by
      have := World.rangeAt_of_block (heap_alloc_new w (.cells (secV s).toArray 71)) 0 64
      have e : ((secV s).toArray.extract 0 (0 + 64)).toList = secV s := by
        rw [show 0 + 64 = (secV s).toArray.size by rw [List.size_toArray, secV_len, hs], Array.extract_size]
      rwa [e] at this
    have hld := World.rangeAt_alloc hr (.cells (secV (fill ⟨#[]⟩)).toArray 71)
    have hsz := sec_size hs
    have hsl : (Try.prog.info? 71).map (·.size) = some (secV s).length := by rw [secV_len, hs]; exact secInfo
    have Hsz := Lib.hid hsz
    have Hsl := Lib.hid hsl
    have Hld := Lib.hid hld
    have Hz := Lib.hid hz
    have e : last [s] = s := rfl
    rw [e]
    clear e hr h hsz hsl hld hz
    go_enter Try.func32, Try.ntmps32
    have hz := Hz.out
    go_wp2_with (first | refine wpList_load_mid rfl 71 (.tmp 2) (by rfl) w.heap.size 0 (by rfl) (secV s) _ Hld.out Try.underlying71 rfl Hsl.out ?_ | refine wpList_store_row rfl 71 (.tmp 4) (.tmp 15) (by rfl) (w.heap.size + 1) _ (by rfl) (by rfl) 71 _ (heap_alloc2_new w _ _) Hsz.out (by rw [List.size_toArray, List.size_toArray, secV_len, secV_len, fill_nil, hs]) (all_oneCell_toArray (secV_one _)) ?_)
    exact bodyPost_ret (v := .agg (secV s).toArray) (results_cell_row (by rfl) _ _ (w.heap.size + 1) 71 _ (0, 0) _ (by rfl) (setRow_heap _ _ _ _ _ _ (heap_alloc2_new w _ _)) Try.underlying71 rfl Hsz.out) rfl ⟨rfl, Hbel.out _ _ _⟩

theorem secInfo3 : (Try.prog.info? 71).map (fun i => (i.zero, i.size, i.bytes)) = some (some (.agg (secV (fill ⟨#[]⟩)).toArray), 64, 64) := by kernel_rfl

set_option maxRecDepth 100000 in
theorem clone_any {w : World} {pv : Value} {L : List ByteArray} (h : OwnS w pv L) (hp : 0 < L.length) (hm : L.length ≤ 1000000) :
    Calls Try.prog 35 #[pv] w fun e w' => ∃ g cap, e = .returned (.slice (some ⟨g, 0, none⟩) L.length cap) ∧ OwnS w' (.slice (some ⟨g, 0, none⟩) L.length cap) L ∧ w.heap.size ≤ g ∧ g < w'.heap.size ∧ Below w.heap.size w w' := by
  obtain ⟨i0, hi, hz0, hz1, hz2⟩ := info_parts secInfo3
  obtain ⟨g, cap, rfl, hg⟩ := h.form hp
  have hown : (w.alloc (.cells #[] 71)).ownsRow w.heap.size 71 64 (.slice (some ⟨w.heap.size, 0, none⟩) 0 0) 0 [] :=
    World.ownsRow_made w #[] 0 (Nat.le_refl _) (by decide) rfl
  have hnews : ∀ j x, (secs L)[j]? = some x → (w.alloc (.cells #[] 71)).cell? ((⟨g, 0, none⟩ : Addr).add j) = some x := fun j x hx => by
    have hj : j < L.length * 64 := by rw [← secs_len h.2]; exact (List.getElem?_eq_some_iff.1 hx).1
    rw [Go.WideShapes.add_plain, World.cell?_alloc_lt _ _ _ hg, Nat.zero_add, h.1.cellAt j hj]
    exact hx
  have hone := secs_one L
  have hlen := secs_len h.2
  have h64 := h.2
  have Hlen := Lib.hid hlen
  have H64 := Lib.hid h64
  have fin : Hid (∀ (w' : World) (g cap : Nat), w'.ownsRow w.heap.size 71 64 (.slice (some ⟨g, 0, none⟩) L.length cap) L.length (secs L) → (w.alloc (.cells #[] 71)).grownBy w' (some w.heap.size) →
      OwnS w' (.slice (some ⟨g, 0, none⟩) L.length cap) L ∧ w.heap.size ≤ g ∧ Below w.heap.size w w') := Lib.hid (fun w' g cap ho hgr => by
    refine ⟨⟨⟨ho.1, ?_⟩, h64⟩, (ho.lt g rfl).1, ?_⟩
    · rcases ho.2 with h2 | ⟨g', cap', cur, e1, h4, r⟩
      · exact .inl h2
      · exact .inr ⟨g', cap', cur, e1, Nat.zero_le _, r⟩
    · exact ((Below.refl _ _).alloc (Nat.le_refl _) _).grown hgr (by simp) (fun k e => by injection e with e; omega))
  have hnil := Lib.run_eql_slice_nil (P := Try.prog) w 58 71 (some ⟨g, 0, none⟩) L.length cap 0 0 Try.underlying58
  clear h hlen h64
  go_enter Try.func35, Try.ntmps35
  go_wp2_with (at_builtin; refine wpList_append_lies _ rfl _ _ 58 (by rfl) w.heap.size 71 i0 _ 64 64 Try.underlying58 hi hz0 hz1 hz2 (by rfl) (by decide) _ 0 [] (by rfl) hown ⟨g, 0, none⟩ L.length cap (secs L) (by rfl) Hlen.out hnews hone hp ?c1 ?c2 ?c3 _ rfl ?_)
  case c1 => unfold maxLen; omega
  case c2 => omega
  case c3 => simp
  intro g2 cap2 w2 hown2 hgrow2 hat2 hlt2
  have hf := fin.out w2 g2 cap2 hown2 (by simpa [Value.ownBlock] using hgrow2)
  have Hf := Lib.hid hf
  clear hown2 hgrow2 hat2 hf hown hnews
  go_wp2_with fail
  go_ret
  exact ⟨g2, cap2, rfl, Hf.out.1, Hf.out.2.1, hlt2, Hf.out.2.2⟩
end Go.Proofs.Ytdagdmfockibfaa
