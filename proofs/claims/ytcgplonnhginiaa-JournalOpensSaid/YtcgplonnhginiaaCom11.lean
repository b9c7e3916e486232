/- Words for the landed disk: sectors as cells, a slice of sectors, a map of slices. -/
import Derived.Test.YtcgplonnhginiaaCom10
import Derived.Maps.OwnSet
import Derived.Maps.RangeWalk
import Derived.Deep.MidRow
import Derived.Deep.WholeRow
import Derived.Deep.AppendLies
import Derived.WalkSpells
import Derived.Laws.CopyOwn
set_option linter.unusedSimpArgs false
set_option linter.unusedVariables false
namespace Go.Proofs.Ytcgplonnhginiaa
open Go.RowKit Dsk

/-- A sector's cells. -/
def secV (s : ByteArray) : List Value := s.data.toList.map fun c => Value.int .u8 (c.toNat : Int)
/-- The cells of sectors, one behind the other. -/
def secs (L : List ByteArray) : List Value := L.flatMap secV
def All64 (L : List ByteArray) : Prop := ∀ s ∈ L, s.size = 64

set_option maxRecDepth 100000 in
theorem secV_len (s : ByteArray) : (secV s).length = s.size := by unfold secV; rw [List.length_map]; rfl
set_option maxRecDepth 100000 in
theorem secV_one (s : ByteArray) : ∀ v ∈ secV s, v.oneCell' = true := fun v hv => by
  obtain ⟨c, _, rfl⟩ := List.mem_map.1 hv
  rfl
set_option maxRecDepth 100000 in
theorem secs_one (L : List ByteArray) : ∀ v ∈ secs L, v.oneCell' = true := fun v hv => by
  obtain ⟨s, _, hs⟩ := List.mem_flatMap.1 hv
  exact secV_one s v hs

set_option maxRecDepth 100000 in
theorem secs_len {L : List ByteArray} (h : All64 L) : (secs L).length = L.length * 64 := by
  induction L with
  | nil => rfl
  | cons s L ih =>
    have h1 := ih (fun x hx => h x (by simp [hx]))
    have h2 : (secV s).length = 64 := by rw [secV_len]; exact h s (by simp)
    show (secV s ++ secs L).length = _
    rw [List.length_append, h1, h2, List.length_cons]
    omega

set_option maxRecDepth 100000 in
theorem secs_append (L M : List ByteArray) : secs (L ++ M) = secs L ++ secs M := by simp [secs]

set_option maxRecDepth 100000 in
theorem secs_get {L : List ByteArray} (h : All64 L) : ∀ (i : Nat) (s : ByteArray), L[i]? = some s → ∀ j, j < 64 → (secs L)[i * 64 + j]? = (secV s)[j]? := by
  induction L with
  | nil => intro i s hs; cases hs
  | cons x L ih =>
    intro i s hs j hj
    have h2 : (secV x).length = 64 := by rw [secV_len]; exact h x (by simp)
    show (secV x ++ secs L)[i * 64 + j]? = _
    cases i with
    | zero =>
      rw [Nat.zero_mul, Nat.zero_add, List.getElem?_append_left (by omega)]
      cases hs; rfl
    | succ i =>
      rw [List.getElem?_append_right (by omega), h2, show (i + 1) * 64 + j - 64 = i * 64 + j by omega]
      exact ih (fun y hy => h y (by simp [hy])) i s hs j hj

set_option maxRecDepth 100000 in
theorem all64_set {L : List ByteArray} (h : All64 L) (i : Nat) {s : ByteArray} (hs : s.size = 64) : All64 (L.set i s) := fun x hx => by
  rcases List.mem_or_eq_of_mem_set hx with hx | hx
  · exact h x hx
  · rw [hx]; exact hs

set_option maxRecDepth 100000 in
theorem secV_inj {s t : ByteArray} (h : secV s = secV t) : s = t := by
  apply ByteArray.ext
  apply Array.ext'
  refine (List.map_inj_right (fun a b hab => ?_)).1 h
  have : (a.toNat : Int) = (b.toNat : Int) := by injection hab
  apply UInt8.toNat_inj.1
  omega

/-- The slice value v is L, out of its own row. -/
def OwnS (w : World) (v : Value) (L : List ByteArray) : Prop := w.ownsRow 0 78 64 v L.length (secs L) ∧ All64 L

section
variable {w w' : World} {v : Value} {L : List ByteArray}

set_option maxRecDepth 100000 in
theorem OwnS.nil (w : World) : OwnS w (.slice none 0 0) [] := ⟨World.ownsRow_nil _ _ _ _, fun _ h => by cases h⟩

set_option maxRecDepth 100000 in
theorem OwnS.form (h : OwnS w v L) (hp : 0 < L.length) : ∃ g cap, v = .slice (some ⟨g, 0, none⟩) L.length cap ∧ g < w.heap.size := by
  obtain ⟨g, cap, e, _, hl⟩ := h.1.form hp
  exact ⟨g, cap, e, hl⟩

set_option maxRecDepth 100000 in
theorem OwnS.any (h : OwnS w v L) : ∃ A cap, v = .slice A L.length cap := by
  rcases h.1.2 with ⟨e, e2⟩ | ⟨g, cap, cur, e, _⟩
  · exact ⟨none, 0, by rw [e, e2]⟩
  · exact ⟨_, cap, e⟩

set_option maxRecDepth 100000 in
theorem OwnS.range {g cap : Nat} (h : OwnS w (.slice (some ⟨g, 0, none⟩) L.length cap) L) {i : Nat} {s : ByteArray} (hs : L[i]? = some s) : w.rangeAt g (i * 64) (secV s) := fun j u hu => by
  have hi := (List.getElem?_eq_some_iff.1 hs).1
  have hl : (secV s).length = 64 := by rw [secV_len]; exact h.2 s (List.mem_of_getElem? hs)
  have hj : j < 64 := by have := (List.getElem?_eq_some_iff.1 hu).1; omega
  rw [h.1.cellAt (i * 64 + j) (by omega), secs_get h.2 i s hs j hj, hu]

set_option maxRecDepth 100000 in
theorem OwnS.same {g n cap : Nat} (h : OwnS w (.slice (some ⟨g, 0, none⟩) n cap) L) (e : w'.heap[g]? = w.heap[g]?) : OwnS w' (.slice (some ⟨g, 0, none⟩) n cap) L := by
  obtain ⟨⟨h1, h2⟩, h3⟩ := h
  refine ⟨⟨h1, ?_⟩, h3⟩
  rcases h2 with h2 | ⟨g', cap', cur, e1, h4, h5, r⟩
  · exact .inl h2
  · simp only [Value.slice.injEq, Option.some.injEq, Addr.mk.injEq, and_true, true_and] at e1
    obtain ⟨rfl, rfl, rfl⟩ := e1
    exact .inr ⟨g, cap, cur, rfl, h4, e.trans h5, r⟩

set_option maxRecDepth 100000 in
theorem OwnS.kept {F : Nat → Prop} (h : OwnS w v L) (k : Kept F w w') (hd : ∀ g, v.ownBlock = some g → ¬ F g) : OwnS w' v L := by
  obtain ⟨⟨h1, h2⟩, h3⟩ := h
  refine ⟨⟨h1, ?_⟩, h3⟩
  rcases h2 with h2 | ⟨g, cap, cur, rfl, h4, h5, r⟩
  · exact .inl h2
  · exact .inr ⟨g, cap, cur, rfl, h4, (k.block g (lt_of_block h5) (hd g rfl)).trans h5, r⟩

set_option maxRecDepth 100000 in
theorem heap_setCells (g : Nat) (t : TypeId) : ∀ (vs : List Value) (o : Nat) (w : World) (cur : Array Value), w.heap[g]? = some (.cells cur t (0, 0)) → ∃ cur', (w.setCells g o vs).heap[g]? = some (.cells cur' t (0, 0)) ∧ cur'.size = cur.size
  | [], _, _, cur, h => ⟨cur, h, rfl⟩
  | v :: r, o, w, cur, h => by
    obtain ⟨cur', h1, h2⟩ := heap_setCells g t r (o + 1) (w.setCell ⟨g, o, none⟩ v) (cur.setIfInBounds o v) (heap_setCell_same w g o cur t v h)
    exact ⟨cur', h1, h2.trans (by simp)⟩

set_option maxRecDepth 100000 in
theorem grown_setCells (g : Nat) : ∀ (vs : List Value) (o : Nat) (w : World), w.grownBy (w.setCells g o vs) (some g)
  | [], _, _ => gb_refl _ _
  | v :: r, o, _ => gb_trans (gb_store (gb_refl _ _) o v) (grown_setCells g r (o + 1) _)

set_option maxRecDepth 100000 in
theorem OwnS.there {g cap : Nat} (h : OwnS w (.slice (some ⟨g, 0, none⟩) L.length cap) L) {i : Nat} (hi : i < L.length) : w.there g (i * 64) 64 := fun j hj => by
  refine ⟨?_, h.1.frozenAt _⟩
  rw [h.1.cellAt (i * 64 + j) (by omega), List.getElem?_eq_getElem (by rw [secs_len h.2]; omega)]
  rfl

set_option maxRecDepth 100000 in
/-- A sector is stored. -/
theorem OwnS.store {g cap : Nat} (h : OwnS w (.slice (some ⟨g, 0, none⟩) L.length cap) L) {i : Nat} (hi : i < L.length) {s : ByteArray} (hs : s.size = 64) :
    OwnS (w.setCells g (i * 64) (secV s)) (.slice (some ⟨g, 0, none⟩) L.length cap) (L.set i s) := by
  have ht := h.there hi
  have hsl : (secV s).length = 64 := by rw [secV_len]; exact hs
  have h64 := all64_set h.2 i hs
  have hcell : ∀ j, j < L.length * 64 → (w.setCells g (i * 64) (secV s)).cell? ⟨g, j, none⟩ = (secs (L.set i s))[j]? := fun j hj => by
    have hq : j / 64 < L.length := by omega
    have hj2 : j = j / 64 * 64 + j % 64 := by omega
    by_cases hji : j / 64 = i
    · have hsi : (L.set i s)[i]? = some s := by rw [List.getElem?_set_self hi]
      rw [hj2, hji, secs_get h64 i s hsi _ (by omega)]
      rw [World.cell?_setCells_in g (secV s) (i * 64) w (fun k hk => (ht k (by omega)).1) (j % 64) (by omega)]
      rw [List.getElem?_eq_getElem (by omega)]
    · obtain ⟨x, hx⟩ : ∃ x, L[j / 64]? = some x := ⟨_, List.getElem?_eq_getElem hq⟩
      have hx2 : (L.set i s)[j / 64]? = some x := by rw [List.getElem?_set_ne (fun e => hji e.symm)]; exact hx
      rw [World.cell?_setCells_out g (secV s) (i * 64) w ⟨g, j, none⟩ (fun _ _ => by show j < i * 64 ∨ i * 64 + _ ≤ j; omega), h.1.cellAt j hj, hj2]
      rw [secs_get h64 _ x hx2 _ (by omega), secs_get h.2 _ x hx _ (by omega)]
  obtain ⟨⟨h1, h2⟩, h3⟩ := h
  refine ⟨⟨?_, ?_⟩, h64⟩
  · rw [secs_len h64, List.length_set]
  · rw [List.length_set]
    rcases h2 with ⟨h2, _⟩ | ⟨g', cap', cur, e1, h4, h5, h6, h7, h8, h9⟩
    · cases h2
    · simp only [Value.slice.injEq, Option.some.injEq, Addr.mk.injEq, and_true, true_and] at e1
      obtain ⟨rfl, rfl⟩ := e1
      obtain ⟨cur', h10, h11⟩ := heap_setCells g _ (secV s) (i * 64) w cur h5
      refine .inr ⟨g, cap, cur', rfl, h4, h10, h6, h7, by rw [h11]; exact h8, ?_⟩
      have hle : L.length * 64 ≤ cap * 64 := Nat.mul_le_mul_right _ h6
      apply List.ext_getElem?
      intro j
      rw [List.getElem?_take]
      by_cases hj : j < L.length * 64
      · rw [if_pos hj, ← hcell j hj, cell_of_row _ g j cur' _ (0, 0) h10, Array.getElem?_toList]
      · rw [if_neg hj, List.getElem?_eq_none (by rw [secs_len h64, List.length_set]; omega)]
end

/-! ### A map whose elements are whatever values -/
def rawElem (v : Value) : Option (DataW Value × List MemPlace) := some (.held v, [])

set_option maxRecDepth 100000 in
theorem sectorsZero (w : World) : (zeroValue 56).run Try.prog w = .ok (.slice none 0 0) w := by kernel_rfl

def key (k : Nat) : Lit := .int .i64 (k : Int)
set_option maxRecDepth 100000 in
theorem key_wf {k : Nat} (h : k ≤ 1000000) : (Lit.int .i64 (k : Int)).wf = true := by
  have : (k : Int) ≤ 1000000 := by omega
  simp only [Lit.wf, IntKind.min, IntKind.max, Bool.and_eq_true]
  constructor <;> simp [IntKind.signed, IntKind.bits] <;> omega
set_option maxRecDepth 100000 in
theorem key_of {k : Nat} (h : k ≤ 1000000) : keyOf Try.prog 3 (.int .i64 (k : Int)) = some (key k) := Go.Maps.keyOf_int_mk Try.underlying3 (key_wf h)
set_option maxRecDepth 100000 in
theorem key_inj {j k : Nat} (h : key j = key k) : j = k := by
  unfold key at h
  injection h with _ h
  omega
set_option maxRecDepth 100000 in
theorem intKeyed : Go.Maps.Keyed Try.prog 3 := Go.Maps.int_keyed Try.underlying3
end Go.Proofs.Ytcgplonnhginiaa
/- The landed disk: what stands in a sector; one more copy of sectors. -/
set_option linter.unusedSimpArgs false
set_option linter.unusedVariables false
namespace Go.Proofs.Ytcgplonnhginiaa
open Go.RowKit Dsk

set_option maxRecDepth 100000 in
theorem secInfo : (Try.prog.info? 78).map (·.size) = some 64 := by kernel_rfl
set_option maxRecDepth 100000 in
theorem secZero : (Try.prog.info? 78).map (fun i => (i.zero, i.size)) = some (some (.agg (secV (fill ⟨#[]⟩)).toArray), 64) := by kernel_rfl

set_option maxRecDepth 100000 in
theorem load_sec {w : World} {g o : Nat} {s : ByteArray} (h : w.rangeAt g o (secV s)) (hs : s.size = 64) : (Instr.loadAt 78 (.pointer (some ⟨g, o, none⟩))).run Try.prog w = .ok (.agg (secV s).toArray) w :=
  run_loadAt_mid w g o _ _ _ h Try.underlying78 rfl (by rw [secV_len, hs]; exact secInfo)

set_option maxRecDepth 100000 in
theorem last_snoc (l : List ByteArray) (s : ByteArray) : last (l ++ [s]) = s := by simp [last]

set_option maxRecDepth 100000 in
theorem last_get {l : List ByteArray} (h : 0 < l.length) : l[l.length - 1]? = some (last l) := by
  unfold last
  rw [List.getLastD_eq_getLast?, List.getLast?_eq_getElem?, List.getElem?_eq_getElem (by omega)]
  rfl

set_option maxRecDepth 100000 in
theorem sec_size {s : ByteArray} (hs : s.size = 64) : (Try.prog.info? 78).map (·.size) = some (secV s).toArray.size := by
  rw [List.size_toArray, secV_len, hs]; exact secInfo

set_option maxRecDepth 100000 in
theorem fill_nil : (fill ⟨#[]⟩).size = 64 := fill_size _ (by decide)

set_option maxRecDepth 100000 in
theorem last_any {w : World} {pv : Value} {L : List ByteArray} (s : ByteArray) (hs : s.size = 64) (h : OwnS w pv L) (hm : L.length ≤ 1000000) :
    Calls Try.prog 41 #[.agg (secV s).toArray, pv] w fun e w' => e = .returned (.agg (secV (last (s :: L))).toArray) ∧ Below w.heap.size w w' := by
  have hz := (zero_of_info secZero).1
  have hbel : ∀ a b c : Array Value, Below w.heap.size w (((w.alloc (.cells a 78)).alloc (.cells b 78)).setRow (w.heap.size + 1) c) := fun a b c => below_setRow (((Below.refl _ _).alloc (Nat.le_refl _) _).alloc (by simp) _) (Nat.le_succ _) _
  have Hbel := Lib.hid hbel
  clear hbel
  by_cases hp : 0 < L.length
  · obtain ⟨g, cap, rfl, hg⟩ := h.form hp
    have hr := h.range (last_get hp)
    have e : last (s :: L) = last L := by
      cases L with
      | nil => cases hp
      | cons x L => rfl
    rw [e]
    have hb : decide ((L.length : Int) > 0) = true := by simpa using hp
    have h64 : (last L).size = 64 := h.2 _ (List.mem_of_getElem? (last_get hp))
    have k0 : (0 : Int) ≤ (L.length : Int) - 1 := by omega
    have k1 : (L.length : Int) - 1 < (L.length : Int) := by omega
    have kw : ((L.length : Int) - 1).toNat = L.length - 1 := by omega
    generalize last L = t at *
    have hld := World.rangeAt_alloc (World.rangeAt_alloc hr (.cells (secV s).toArray 78)) (.cells (secV (fill ⟨#[]⟩)).toArray 78)
    have hsz := sec_size h64
    have hsl : (Try.prog.info? 78).map (·.size) = some (secV t).length := by rw [secV_len, h64]; exact secInfo
    have Hsz := Lib.hid hsz
    have Hsl := Lib.hid hsl
    have Hld := Lib.hid hld
    have Hz := Lib.hid hz
    clear e hr h hsz hsl hld hz
    go_enter Try.func41, Try.ntmps41
    have hz := Hz.out
    go_wp2_with (first | refine wpList_load_mid rfl 78 (.tmp 13) (by rfl) g ((L.length - 1) * 64) (by rfl) (secV t) _ Hld.out Try.underlying78 rfl Hsl.out ?_ | refine wpList_store_row rfl 78 (.tmp 4) (.tmp 14) (by rfl) (w.heap.size + 1) _ (by rfl) (by rfl) 78 _ (heap_alloc2_new w _ _) Hsz.out (by rw [List.size_toArray, List.size_toArray, secV_len, secV_len, fill_nil, h64]) (all_oneCell_toArray (secV_one _)) ?_)

    exact bodyPost_ret (v := .agg (secV t).toArray) (results_cell_row (by rfl) _ _ (w.heap.size + 1) 78 _ (0, 0) _ (by rfl) (setRow_heap _ _ _ _ _ _ (heap_alloc2_new w _ _)) Try.underlying78 rfl Hsz.out) rfl ⟨rfl, Hbel.out _ _ _⟩
  · have hL : L = [] := List.eq_nil_of_length_eq_zero (by omega)
    subst hL
    obtain ⟨A, cap, rfl⟩ := h.any
    have hr : (w.alloc (.cells (secV s).toArray 78)).rangeAt w.heap.size 0 (secV s) := by
      have := World.rangeAt_of_block (heap_alloc_new w (.cells (secV s).toArray 78)) 0 64
      have e : ((secV s).toArray.extract 0 (0 + 64)).toList = secV s := by
        rw [show 0 + 64 = (secV s).toArray.size by rw [List.size_toArray, secV_len, hs], Array.extract_size]
      rwa [e] at this
    have hld := World.rangeAt_alloc hr (.cells (secV (fill ⟨#[]⟩)).toArray 78)
    have hsz := sec_size hs
    have hsl : (Try.prog.info? 78).map (·.size) = some (secV s).length := by rw [secV_len, hs]; exact secInfo
    have Hsz := Lib.hid hsz
    have Hsl := Lib.hid hsl
    have Hld := Lib.hid hld
    have Hz := Lib.hid hz
    have e : last [s] = s := rfl
    rw [e]
    clear e hr h hsz hsl hld hz
    go_enter Try.func41, Try.ntmps41
    have hz := Hz.out
    go_wp2_with (first | refine wpList_load_mid rfl 78 (.tmp 2) (by rfl) w.heap.size 0 (by rfl) (secV s) _ Hld.out Try.underlying78 rfl Hsl.out ?_ | refine wpList_store_row rfl 78 (.tmp 4) (.tmp 15) (by rfl) (w.heap.size + 1) _ (by rfl) (by rfl) 78 _ (heap_alloc2_new w _ _) Hsz.out (by rw [List.size_toArray, List.size_toArray, secV_len, secV_len, fill_nil, hs]) (all_oneCell_toArray (secV_one _)) ?_)
    exact bodyPost_ret (v := .agg (secV s).toArray) (results_cell_row (by rfl) _ _ (w.heap.size + 1) 78 _ (0, 0) _ (by rfl) (setRow_heap _ _ _ _ _ _ (heap_alloc2_new w _ _)) Try.underlying78 rfl Hsz.out) rfl ⟨rfl, Hbel.out _ _ _⟩

set_option maxRecDepth 100000 in
theorem secInfo3 : (Try.prog.info? 78).map (fun i => (i.zero, i.size, i.bytes)) = some (some (.agg (secV (fill ⟨#[]⟩)).toArray), 64, 64) := by kernel_rfl

end Go.Proofs.Ytcgplonnhginiaa
