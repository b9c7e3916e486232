/- The landed disk: a disk is made. -/
import Derived.Test.YtbfjageaheijbaaGreatCom21
import Derived.Laws.MakeOwn
set_option linter.unusedSimpArgs false
set_option linter.unusedVariables false
namespace Go.Proofs.YtbfjageaheijbaaGreat
open Go.RowKit Dsk

set_option maxRecDepth 100000 in
theorem new_no (n : Int) (w : World) (h : n < 1 ∨ 4096 < n) : Calls Tryz.prog 7 #[.int .i64 n] w fun e w' => e = .returned (.tuple #[.pointer none, .int .i64 2]) ∧ Below w.heap.size w w' := by
  rcases h with h | h
  · go_enter Tryz.func7, Tryz.ntmps7
    go_wp2_with fail
    go_ret2
    exact ⟨rfl, Below.refl _ _⟩
  · have h' : decide (n < 1) = false := by simp; omega
    go_enter Tryz.func7, Tryz.ntmps7
    go_wp2_with fail
    go_ret2
    exact ⟨rfl, Below.refl _ _⟩

set_option maxRecDepth 100000 in
theorem zeros (n : Nat) : madeCells (secV (fill ⟨#[]⟩)).toArray (n * 64) = (secs (List.replicate n (fill ⟨#[]⟩))).toArray := by
  have h64 : All64 (List.replicate n (fill ⟨#[]⟩)) := fun s hs => by rw [List.eq_of_mem_replicate hs]; exact fill_nil
  have hl : (secV (fill ⟨#[]⟩)).length = 64 := by rw [secV_len, fill_nil]
  apply Array.ext_getElem?
  intro i
  by_cases hi : i < n * 64
  · have e1 : (madeCells (secV (fill ⟨#[]⟩)).toArray (n * 64))[i]? = (secV (fill ⟨#[]⟩))[i % 64]? := by
      unfold madeCells
      rw [Array.getElem?_map, Array.getElem?_eq_getElem (by simpa using hi)]
      simp [hl, Nat.mod_lt]
    have hk : (List.replicate n (fill ⟨#[]⟩))[i / 64]? = some (fill ⟨#[]⟩) := by rw [List.getElem?_replicate, if_pos (by omega)]
    have e2 := secs_get h64 (i / 64) _ hk (i % 64) (by omega)
    rw [show i / 64 * 64 + i % 64 = i by omega] at e2
    rw [e1, List.getElem?_toArray, e2]
  · rw [Array.getElem?_eq_none (by rw [size_madeCells]; omega), Array.getElem?_eq_none (by rw [List.size_toArray, secs_len h64, List.length_replicate]; omega)]

set_option maxRecDepth 100000 in
theorem new_heads (n : Nat) : heads (new n).S = List.replicate n (fill ⟨#[]⟩) := by simp [heads, new, List.map_replicate]

set_option maxRecDepth 100000 in
theorem new_at (w : World) (n : Nat) (h1 : 1 ≤ n) (h2 : n ≤ 4096) :
    DAt (((w.alloc (.cells (secs (List.replicate n (fill ⟨#[]⟩))).toArray 93)).alloc (.map #[] 0)).alloc (.cells (dcells (.slice (some ⟨w.heap.size, 0, none⟩) n n) (w.heap.size + 1) (new n)) 73))
      (New w (((w.alloc (.cells (secs (List.replicate n (fill ⟨#[]⟩))).toArray 93)).alloc (.map #[] 0)).alloc (.cells (dcells (.slice (some ⟨w.heap.size, 0, none⟩) n n) (w.heap.size + 1) (new n)) 73)))
      (w.heap.size + 2) (w.heap.size + 1) (.slice (some ⟨w.heap.size, 0, none⟩) n n) 0 (.map []) (fun _ => .slice none 0 0) (new n) := by
  have h64 : All64 (List.replicate n (fill ⟨#[]⟩)) := fun s hs => by rw [List.eq_of_mem_replicate hs]; exact fill_nil
  have hone : ∀ (k : Nat) (l : List ByteArray), (new n).S[k]? = some l → l = [fill ⟨#[]⟩] := fun k l hl => List.eq_of_mem_replicate (List.mem_of_getElem? hl)
  have e1 : (w.alloc (.cells (secs (List.replicate n (fill ⟨#[]⟩))).toArray 93)).heap.size = w.heap.size + 1 := by simp
  have e2 : ((w.alloc (.cells (secs (List.replicate n (fill ⟨#[]⟩))).toArray 93)).alloc (.map #[] 0)).heap.size = w.heap.size + 2 := by simp
  generalize hw1 : w.alloc (.cells (secs (List.replicate n (fill ⟨#[]⟩))).toArray 93) = w1 at *
  have hown : OwnS w1 (.slice (some ⟨w.heap.size, 0, none⟩) n n) (List.replicate n (fill ⟨#[]⟩)) := by
    refine ⟨?_, h64⟩
    rw [List.length_replicate, ← hw1]
    have := World.ownsRow_lit (e := 93) (size := 64) (base := 0) w (secs (List.replicate n (fill ⟨#[]⟩))).toArray n (Nat.zero_le _) (by unfold maxLen; omega) (by rw [List.size_toArray, secs_len h64, List.length_replicate])
    simpa using this
  have hmap : (w1.alloc (.map #[] 0)).ownsMap Tryz.prog 3 rawElem (w.heap.size + 1) 0 (.map []) := by
    have := World.ownsMap_made w1 Tryz.prog 3 rawElem
    rw [e1] at this
    exact this
  generalize hw2 : w1.alloc (.map #[] 0) = w2 at *
  have hsz : ∀ o, (w2.alloc o).heap.size = w.heap.size + 3 := fun o => by simp [e2]
  refine
    { blk := ?_, safe := ?_, pos := ?_, few := ?_, map := hmap.alloc _, big := Nat.le_refl _, keys := (fun kl h => by cases h), has := fun k l hl => ?_, val := fun k l hl hp => ?_, full := fun l hl => ?_, all64 := fun l hl => ?_
      apart := fun j k l m g hl hp => ?_, inB := ⟨by omega, by rw [hsz]; omega⟩, inM := ⟨by omega, by rw [hsz]; omega⟩, inS := fun g hg => ?_, inP := fun k l g hl hp => ?_ }
  · have := Row.made w2 73 (dcells (.slice (some ⟨w.heap.size, 0, none⟩) n n) (w.heap.size + 1) (new n))
    rw [e2] at this
    exact this
  · rw [new_heads]
    have k1 : Kept (fun _ => False) w1 w2 := by rw [← hw2]; exact (Kept.refl _ _).alloc _
    exact (hown.kept k1 (fun _ _ h => h)).kept ((Kept.refl (fun _ => False) w2).alloc _) (fun _ _ h => h)
  · show 0 < (List.replicate n _).length
    rw [List.length_replicate]; omega
  · show (List.replicate n _).length ≤ 4096
    rw [List.length_replicate]; omega
  · rw [hone k l hl]; rfl
  · rw [hone k l hl] at hp; simp at hp
  · rw [List.eq_of_mem_replicate hl]; exact Nat.zero_lt_one
  · rw [List.eq_of_mem_replicate hl]
    intro s hs
    rw [List.mem_singleton.1 hs]; exact fill_nil
  · rw [hone j l hl] at hp; simp at hp
  · have : w.heap.size = g := by injection hg
    subst this
    exact ⟨⟨Nat.le_refl _, by rw [hsz]; omega⟩, by omega⟩
  · rw [hone k l hl] at hp; simp at hp

set_option maxRecDepth 100000 in
theorem new_ok (n : Nat) (w : World) (h1 : 1 ≤ n) (h2 : n ≤ 4096) : Calls Tryz.prog 7 #[.int .i64 (n : Int)] w fun e w' => ∃ v, e = .returned (.tuple #[v, .int .i64 0]) ∧ At w' (New w w') v (Dsk.new n) ∧ Below w.heap.size w w' := by
  obtain ⟨i0, hi, hz0, hz1, hz2⟩ := info_parts secInfo3
  have hat := new_at w n h1 h2
  have Hat := Lib.hid hat
  have hmk : ∀ W : World, (Instr.makeSlice 70 (.int .i64 (n : Int)) (.int .i64 (n : Int))).run Tryz.prog W = .ok (.slice (some ⟨W.heap.size, 0, none⟩) n n) (W.alloc (.cells (secs (List.replicate n (fill ⟨#[]⟩))).toArray 93)) := fun W => by
    have hr := run_make (P := Tryz.prog) W 70 93 i0 _ Tryz.underlying70 hi hz0 .i64 .i64 n n (by omega) (by omega) (by rw [hz2]; omega) (by omega)
    simp only [Int.toNat_natCast] at hr
    rw [hr, hz1]
    show Result.ok _ (W.alloc (.cells (madeCells (secV (fill ⟨#[]⟩)).toArray (n * 64)) _)) = _
    rw [zeros]
  have hmm := @run_makeMap Tryz.prog
  have b1 : decide ((n : Int) < 1) = false := by simp; omega
  have b2 : decide ((n : Int) > 4096) = false := by simp; omega
  have Hbel : Hid (∀ o1 o2 o3, Below w.heap.size w (((w.alloc o1).alloc o2).alloc o3)) := Lib.hid (fun o1 o2 o3 => (((Below.refl _ _).alloc (Nat.le_refl _) _).alloc (by simp) _).alloc (by simp; omega) _)
  clear hat hi hz0 hz1 hz2
  go_enter Tryz.func7, Tryz.ntmps7
  go_wp2_with fail
  go_ret2
  exact ⟨_, rfl, ⟨_, _, _, _, _, _, rfl, Hat.out⟩, Hbel.out _ _ _⟩
end Go.Proofs.YtbfjageaheijbaaGreat
/- The landed disk: all is safe. -/
set_option linter.unusedSimpArgs false
set_option linter.unusedVariables false
namespace Go.Proofs.YtbfjageaheijbaaGreat
open Go.RowKit Dsk

section
variable {w : World} {F : Nat → Prop} {b bm : Nat} {sv : Value} {N : Nat} {M : DataW Value} {pv : Nat → Value} {d : D}

set_option maxRecDepth 100000 in
/-- One sector's list becomes one text. -/
theorem DAt.lay (h : DAt w F b bm sv N M pv d) {k : Nat} {l : List ByteArray} (hl : d.S[k]? = some l) {x : ByteArray} (hx : x.size = 64) {w1 w2 : World}
    (hk1 : Kept (fun i => sv.ownBlock = some i) w w1) (ho : OwnS w1 sv ((heads d.S).set k x)) (hk2 : Kept (fun i => i = bm) w1 w2) (hm : w2.ownsMap Tryz.prog 3 rawElem bm N (M.del (key k))) :
    DAt w2 F b bm sv N (M.del (key k)) pv ⟨d.S.set k [x], d.calls, d.armed, d.down⟩ := by
  have hkl := (List.getElem?_eq_some_iff.1 hl).1
  obtain ⟨nb, ns, np⟩ := h.ne
  have hset : ∀ j m, (d.S.set k [x])[j]? = some m → (j = k ∧ m = [x]) ∨ (j ≠ k ∧ d.S[j]? = some m) := fun j m hm => by
    by_cases e : j = k
    · subst e
      rw [List.getElem?_set_self hkl] at hm
      cases hm
      exact Or.inl ⟨rfl, rfl⟩
    · rw [List.getElem?_set_ne (fun h' => e h'.symm)] at hm
      exact Or.inr ⟨e, hm⟩
  have old : ∀ j m, (d.S.set k [x])[j]? = some m → 1 < m.length → j ≠ k ∧ d.S[j]? = some m := fun j m hm hp => by
    rcases hset j m hm with ⟨_, rfl⟩ | h
    · simp at hp
    · exact h
  refine
    { blk := (Row.kept (Row.kept h.blk hk1 (fun e => (h.inS b e).2 rfl)) hk2 nb)
      safe := ?_, pos := ?_, few := ?_, map := hm, big := h.big, keys := ?_, has := ?_, val := ?_, full := ?_, all64 := ?_, apart := ?_, inB := h.inB, inM := h.inM, inS := h.inS, inP := ?_ }
  · show OwnS w2 sv (heads (d.S.set k [x]))
    rw [heads_set]
    exact ho.kept hk2 (fun i hi => ns i hi)
  · show 0 < (d.S.set k _).length
    rw [List.length_set]; exact h.pos
  · show (d.S.set k _).length ≤ 4096
    rw [List.length_set]; exact h.few
  · intro kl hkl'
    show ∃ j, j < (d.S.set k _).length ∧ kl = key j
    rw [List.length_set]
    by_cases e : kl = key k
    · subst e
      rw [Maps.has_del_same] at hkl'; cases hkl'
    · rw [Maps.has_del_other e] at hkl'
      exact h.keys kl hkl'
  · intro j m hm
    rcases hset j m hm with ⟨rfl, rfl⟩ | ⟨e, hm⟩
    · rw [Maps.has_del_same]; rfl
    · rw [Maps.has_del_other (fun e' => e (key_inj e'))]
      exact h.has j m hm
  · intro j m hm hp
    obtain ⟨e, hm⟩ := old j m hm hp
    obtain ⟨p1, p2⟩ := h.val j m hm hp
    refine ⟨fun zd => ?_, (p2.kept hk1 (fun i hi he => (h.inP j m i hm hp hi).2.2 he)).kept hk2 (fun i hi => np j m i hm hp hi)⟩
    rw [Maps.atKey_del_other (fun e' => e (key_inj e'))]
    exact p1 zd
  · intro m hm
    rcases List.mem_or_eq_of_mem_set hm with hm | hm
    · exact h.full m hm
    · rw [hm]; exact Nat.zero_lt_one
  · intro m hm
    rcases List.mem_or_eq_of_mem_set hm with hm | hm
    · exact h.all64 m hm
    · rw [hm]
      intro s hs
      rw [List.mem_singleton.1 hs]; exact hx
  · intro j i m m' g' hm hp hm' hp' hji hg'
    obtain ⟨_, hm⟩ := old j m hm hp
    obtain ⟨_, hm'⟩ := old i m' hm' hp'
    exact h.apart j i m m' g' hm hp hm' hp' hji hg'
  · intro j m g' hm hp hg'
    obtain ⟨_, hm⟩ := old j m hm hp
    exact h.inP j m g' hm hp hg'

set_option maxRecDepth 100000 in
theorem has_del_fun (M : DataW Value) {kl : Lit} (hk : WideAt.IsKeyLit kl) : (fun z : Lit => Maps.has M z && !z.sameKey kl) = Maps.has (M.del kl) := by
  funext z
  by_cases e : z = kl
  · subst e
    rw [Maps.has_del_same, WideAt.sameKey_self hk]; simp
  · rw [Maps.has_del_other e, Maps.sameKey_ne e]; simp

set_option maxRecDepth 100000 in
theorem key_lit (k : Nat) : WideAt.IsKeyLit (key k) := by trivial

set_option maxRecDepth 100000 in
/-- A sector is stored in the midst of a row. -/
theorem step_mid {ops : Array Oper} {o : Oper} {a : Act} {w : World} {K : Act → World → Prop} {Q : Exit → Act → World → Prop} {E : Prop} (y z : Operand) {x : ByteArray} (hgd : o.guard = none) (ho : o.op = .store 93 y z) (hz : a.eval z = .agg (secV x).toArray)
    {g q0 : Nat} (hy : a.eval y = .pointer (some ⟨g, q0, none⟩)) (hx : x.size = 64) (ht : w.there g q0 64) (h : K (a.put o.dst undef) (w.setCells g q0 (secV x))) :
    if Region.wanted o (yielded ops a.tmps) = true then Oper.wp Tryz.prog o a w K Q else E := by
  have hw : Region.wanted o (yielded ops a.tmps) = true := by simp [Region.wanted, hgd]
  rw [if_pos hw]
  have hl : (secV x).toArray.size = 64 := by rw [List.size_toArray, secV_len, hx]
  exact wp_store_mid 93 y z ho g q0 _ hy hz (by rw [hl]; exact ht) (sec_size hx) (all_oneCell_toArray (secV_one x)) h

set_option maxRecDepth 100000 in
theorem DAt.kept2 {G : Nat → Prop} {w' : World} (h : DAt w F b bm sv N M pv d) (k : Kept G w w') (hb : ¬ G b) (hm : ¬ G bm) (hs : ∀ g, sv.ownBlock = some g → ¬ G g) (hp : ∀ j l g, d.S[j]? = some l → 1 < l.length → (pv j).ownBlock = some g → ¬ G g) : DAt w' F b bm sv N M pv d :=
  { h with blk := h.blk.kept k hb, safe := h.safe.kept k hs, map := ownsMap_kept h.map k hm, val := fun j l hl hp' => ⟨(h.val j l hl hp').1, (h.val j l hl hp').2.kept k (fun g hg => hp j l g hl hp' hg)⟩ }

set_option maxRecDepth 100000 in
/-- An iterator's block is none of the disk's. -/
theorem DAt.iter {w' : World} {r since c0 : Nat} {seen : Array Nat} {bi : Option Nat} (h : DAt w F b bm sv N M pv d) (hr : w.heap[r]? = some (.mapIter bi since seen c0)) (k : w.grownBy w' (some r)) : DAt w' F b bm sv N M pv d := by
  refine h.kept2 (G := fun i => i = r) (Kept.ofGrown k (fun i e => by injection e with e; exact e.symm)) (fun e => ?_) (fun e => ?_) (fun g hg e => ?_) (fun j l g hl hp hg e => ?_)
  · have := h.blk
    unfold Row at this
    rw [e, hr] at this; cases this
  · obtain ⟨es, clock, hb, _⟩ := h.map
    rw [e, hr] at hb; cases hb
  · obtain ⟨cur, hc⟩ := ownS_block h.safe hg
    rw [e, hr] at hc; cases hc
  · obtain ⟨cur, hc⟩ := ownS_block (h.val j l hl hp).2 hg
    rw [e, hr] at hc; cases hc

/-- While the map is ranged over: some sectors are done. -/
structure FlD (w : World) (F : Nat → Prop) (b bm r : Nat) (sv : Value) (N : Nat) (pv : Nat → Value) (d : D) (cnt : Nat) (wr : World) : Prop where
  out : ∃ (M : DataW Value) (S : List (List ByteArray)), DAt wr F b bm sv N M pv ⟨S, d.calls, d.armed, d.down⟩ ∧ wr.ranges Tryz.prog 3 rawElem bm r N M (Maps.has M) cnt ∧ S.length = d.S.length ∧ (∀ (k : Nat) (l : List ByteArray), d.S[k]? = some l → S[k]? = some l ∨ S[k]? = some [last l])
  kept : Kept F w wr
  new : w.heap.size ≤ r

set_option maxRecDepth 100000 in
theorem FlD.done {r : Nat} {wr : World} (h : FlD w F b bm r sv N pv d 0 wr) {M : DataW Value} {S : List (List ByteArray)} (h1 : DAt wr F b bm sv N M pv ⟨S, d.calls, d.armed, d.down⟩) (h3 : S.length = d.S.length)
    (h4 : ∀ (k : Nat) (l : List ByteArray), d.S[k]? = some l → S[k]? = some l ∨ S[k]? = some [last l]) (hl0 : ∀ kl, Maps.has M kl = false) (hfull : ∀ l ∈ d.S, 0 < l.length) :
    Does At w F (.pointer (some ⟨b, 0, none⟩)) ⟨d.S.map fun l => [last l], d.calls, d.armed, d.down⟩ wr := by
  have e : S = d.S.map fun l => [last l] := by
    apply List.ext_getElem?
    intro k
    by_cases hk : k < d.S.length
    · have hl := List.getElem?_eq_getElem hk
      rw [List.getElem?_map, hl]
      rcases h4 k _ hl with h | h
      · rw [h]
        have hh := h1.has k _ h
        rw [hl0] at hh
        have h1' : ¬ 1 < d.S[k].length := by
          intro hp
          rw [decide_eq_true hp] at hh; cases hh
        have h2 := hfull _ (List.getElem_mem hk)
        obtain ⟨x, hx⟩ : ∃ x, d.S[k] = [x] := List.length_eq_one_iff.1 (Nat.le_antisymm (Nat.le_of_not_lt h1') h2)
        rw [hx]; rfl
      · rw [h]; rfl
    · have hle : d.S.length ≤ k := Nat.le_of_not_lt hk
      rw [List.getElem?_eq_none (show S.length ≤ k by rw [h3]; exact hle), List.getElem?_eq_none (by rw [List.length_map]; exact hle)]
  subst e
  exact ⟨⟨b, bm, sv, N, M, pv, rfl, h1.mono (fun _ hi => Or.inl hi)⟩, h.kept⟩

/-- What comes up next. -/
structure Up (w : World) (F : Nat → Prop) (b bm r g cap : Nat) (N : Nat) (pv : Nat → Value) (d : D) (k : Nat) (s0 : ByteArray) (t : List ByteArray) (v : Value) (cnt : Nat) (wq : World) : Prop where
  out : ∃ (M : DataW Value) (S : List (List ByteArray)), DAt wq F b bm (.slice (some ⟨g, 0, none⟩) d.S.length cap) N M pv ⟨S, d.calls, d.armed, d.down⟩ ∧ wq.ranges Tryz.prog 3 rawElem bm r N M (fun z => Maps.has M z && !z.sameKey (key k)) cnt ∧ S.length = d.S.length ∧
    (∀ (k : Nat) (l : List ByteArray), d.S[k]? = some l → S[k]? = some l ∨ S[k]? = some [last l]) ∧ S[k]? = some (s0 :: t)
  orig : d.S[k]? = some (s0 :: t)
  own : OwnS wq v t
  lt : k < d.S.length
  sz : All64 (s0 :: t)
  kept : Kept F w wq
  new : w.heap.size ≤ r

set_option maxRecDepth 100000 in
theorem FlD.next {r g cap cnt cnt' : Nat} {wr wq : World} {x : Int} {v : Value} {kl : Lit} {y : DataW Value × List MemPlace} (h : FlD w F b bm r (.slice (some ⟨g, 0, none⟩) d.S.length cap) N pv d cnt wr) {M : DataW Value} {S : List (List ByteArray)}
    (h1 : DAt wr F b bm (.slice (some ⟨g, 0, none⟩) d.S.length cap) N M pv ⟨S, d.calls, d.armed, d.down⟩) (h3 : S.length = d.S.length) (h4 : ∀ (k : Nat) (l : List ByteArray), d.S[k]? = some l → S[k]? = some l ∨ S[k]? = some [last l])
    (hr0 : wr.ranges Tryz.prog 3 rawElem bm r N M (Maps.has M) cnt) (hkey : keyOf Tryz.prog 3 (.int .i64 x) = some kl) (hlk : Maps.has M kl = true) (hv : rawElem v = some y) (hat : ∀ zd, M.atKey kl zd = y.1)
    (hrg : wq.ranges Tryz.prog 3 rawElem bm r N M (fun z => Maps.has M z && !z.sameKey kl) cnt') (hgr : wr.grownBy wq (some r)) :
    ∃ (k : Nat) (s0 : ByteArray) (t : List ByteArray), x = (k : Int) ∧ Up w F b bm r g cap N pv d k s0 t v cnt' wq := by
  obtain ⟨k, hk, rfl⟩ := h1.keys kl hlk
  obtain ⟨x', e1, e2, -⟩ := Maps.keyOf_int_inv Tryz.underlying3 hkey
  have ex : x = (k : Int) := by
    have e3 : x = x' := by injection e1
    have e4 : (k : Int) = x' := by unfold key at e2; injection e2
    omega
  have hkS : k < S.length := hk
  have hl := List.getElem?_eq_getElem hkS
  have hh := h1.has k _ hl
  rw [hlk] at hh
  have hp : 1 < S[k].length := of_decide_eq_true hh.symm
  obtain ⟨s0, t, hst⟩ : ∃ s0 t, S[k] = s0 :: t := by
    cases e : S[k] with
    | nil => rw [e] at hp; cases hp
    | cons a q => exact ⟨a, q, rfl⟩
  rw [hst] at hl hp
  obtain ⟨p1, p2⟩ := h1.val k _ hl hp
  have ev : v = pv k := by
    have a1 := hat (.nil)
    rw [p1] at a1
    have a2 : y.1 = .held v := by unfold rawElem at hv; injection hv with hv; rw [← hv]
    rw [a2] at a1
    injection a1 with a1
    exact a1.symm
  subst ev
  have hrr : ∃ since c0 seen bi, wr.heap[r]? = some (.mapIter bi since seen c0) := by
    obtain ⟨es, clock, since, seen, c0, _, _, _, _, hr', _⟩ := hr0
    exact ⟨_, _, _, _, hr'⟩
  obtain ⟨since, c0, seen, bi, hr'⟩ := hrr
  have h1' := h1.iter hr' hgr
  have hd : d.S[k]? = some (s0 :: t) := by
    have hkd : k < d.S.length := by omega
    have hl' := List.getElem?_eq_getElem hkd
    rcases h4 k _ hl' with e | e
    · rw [hl', ← e, hl]
    · rw [hl] at e
      have e2 : s0 :: t = [last d.S[k]] := by injection e
      rw [e2] at hp; simp at hp
  refine ⟨k, s0, t, ex, ⟨⟨M, S, h1', hrg, h3, h4, hl⟩, hd, (h1'.val k _ hl hp).2, by omega, h1.all64 _ (List.mem_of_getElem? hl), ?_, h.new⟩⟩
  exact h.kept.trans (Kept.ofGrown (F := fun i => i = r) hgr (fun i e => by injection e with e; exact e.symm)) (fun i hi e => by have := h.new; omega)

set_option maxRecDepth 100000 in
theorem Up.facts {r g cap cnt k : Nat} {s0 : ByteArray} {t : List ByteArray} {v : Value} {wq : World} (h : Up w F b bm r g cap N pv d k s0 t v cnt wq) {w' : World} (hb : Below wq.heap.size wq w') :
    w'.cell? ⟨b, 0, none⟩ = some (.slice (some ⟨g, 0, none⟩) d.S.length cap) ∧ w'.cell? ⟨b, 1, none⟩ = some (.map (some bm)) ∧ w'.rangeAt g (k * 64) (secV s0) ∧ w'.there g (k * 64) 64 ∧ OwnS w' v t := by
  obtain ⟨⟨M, S, h1, -, h3, -, hl⟩, -, ho, hk, -, -, -⟩ := h
  have kb := Kept.ofBelow hb (fun _ => False)
  have h1' := h1.kept kb (fun _ _ h => h)
  have hs := h1'.safe
  have hg := heads_get hl
  rw [show d.S.length = (heads S).length by rw [heads_len, h3]] at hs
  refine ⟨h1'.facts.1, h1'.facts.2.1, hs.range hg, hs.there (by rw [heads_len]; omega), ho.kept kb (fun _ _ h => h)⟩

set_option maxRecDepth 100000 in
/-- A round is done. w4: behind the delete. -/
theorem Up.round {r g cap cnt k : Nat} {s0 : ByteArray} {t : List ByteArray} {v : Value} {wq w2 : World} (h : Up w F b bm r g cap N pv d k s0 t v cnt wq) (hb : Below wq.heap.size wq w2) :
    ∃ M : DataW Value, (w2.setCells g (k * 64) (secV (last (s0 :: t)))).ranges Tryz.prog 3 rawElem bm r N M (fun z => Maps.has M z && !z.sameKey (key k)) cnt ∧ (w2.setCells g (k * 64) (secV (last (s0 :: t)))).cell? ⟨b, 1, none⟩ = some (.map (some bm)) ∧
      ∀ (w4 : World) (cnt' : Nat), w4.ranges Tryz.prog 3 rawElem bm r N (M.del (key k)) (fun z => (Maps.has M z && !z.sameKey (key k)) && !z.sameKey (key k)) cnt' → (w2.setCells g (k * 64) (secV (last (s0 :: t)))).mapTurned w4 bm →
        FlD w F b bm r (.slice (some ⟨g, 0, none⟩) d.S.length cap) N pv d cnt' w4 := by
  obtain ⟨⟨M, S, h1, hr1, h3, h4, hl⟩, hd, ho, hk, h64, hkp, hnew⟩ := h
  have kb := Kept.ofBelow hb (fun _ => False)
  have h2 := h1.kept kb (fun _ _ h => h)
  have hs := h2.safe
  rw [show d.S.length = (heads S).length by rw [heads_len, h3]] at hs
  have hx : (last (s0 :: t)).size = 64 := h64 _ (List.mem_of_getElem? (last_get (l := s0 :: t) (by simp)))
  have hst := hs.store (i := k) (s := last (s0 :: t)) (by rw [heads_len]; omega) hx
  have hgr := grown_setCells g (secV (last (s0 :: t))) (k * 64) w2
  have hrr : r ≠ g := by
    intro e
    obtain ⟨es, clock, since, seen, c0, _, _, _, _, hr', _⟩ := hr1
    obtain ⟨cur, hc⟩ := ownS_block h1.safe (g := g) rfl
    rw [← e, hr'] at hc; cases hc
  have hmg : bm ≠ g := by
    intro e
    exact (h1.ne.2.1 g rfl) e.symm
  have hr2 : (w2.setCells g (k * 64) (secV (last (s0 :: t)))).ranges Tryz.prog 3 rawElem bm r N M (fun z => Maps.has M z && !z.sameKey (key k)) cnt := by
    refine World.ranges.kept ?_ hgr (by simpa using hmg) (by simpa using hrr)
    obtain ⟨es, clock, since, seen, c0, e1, e2, e3, e4, e5, e6⟩ := hr1
    exact ⟨es, clock, since, seen, c0, (hb.block bm (lt_of_block e1)).trans e1, e2, e3, e4, (hb.block r (lt_of_block e5)).trans e5, e6⟩
  have c1 := (h2.facts).2.1
  have hbg : b ≠ g := fun e => (h1.inS g rfl).2 e.symm
  refine ⟨M, hr2, (World.cell?_of_block (w := w2) (hgr.block b h2.lt (by simpa using hbg))).trans c1, fun w4 cnt' hr4 hturn => ?_⟩
  rw [Maps.strike_twice] at hr4
  rw [show (fun z : Lit => Maps.has M z && !z.sameKey (key k)) = Maps.has (M.del (key k)) from has_del_fun M (key_lit k)] at hr4
  have hk1 : Kept (fun i => (Value.slice (some ⟨g, 0, none⟩) d.S.length cap).ownBlock = some i) w2 (w2.setCells g (k * 64) (secV (last (s0 :: t)))) := Kept.ofGrown hgr (fun i e => e)
  have hk2 : Kept (fun i => i = bm) (w2.setCells g (k * 64) (secV (last (s0 :: t)))) w4 := Kept.ofGrown hturn.grown (fun i e => by injection e with e; exact e.symm)
  have h5 := h2.lay (k := k) hl hx hk1 (by rw [show d.S.length = (heads S).length by rw [heads_len, h3]]; exact hst) hk2 hr4.owns
  refine ⟨⟨M.del (key k), S.set k [last (s0 :: t)], h5, hr4, by rw [List.length_set]; exact h3, fun j l hj => ?_⟩, ?_, hnew⟩
  · by_cases e : j = k
    · subst e
      right
      rw [hd] at hj
      rw [List.getElem?_set_self (by omega)]
      cases hj; rfl
    · rw [List.getElem?_set_ne (fun h' => e h'.symm)]
      exact h4 j l hj
  · have q1 : Kept F w w2 := hkp.trans (kb.mono (fun _ h => h.elim)) (fun _ _ h => h)
    have q2 : Kept F w2 (w2.setCells g (k * 64) (secV (last (s0 :: t)))) := hk1.mono (fun i hi => (h1.inS i hi).1)
    have q3 : Kept F (w2.setCells g (k * 64) (secV (last (s0 :: t)))) w4 := hk2.mono (fun i hi => by subst hi; exact h1.inM)
    exact (q1.trans q2 (fun _ _ h => h)).trans q3 (fun _ _ h => h)

set_option maxRecDepth 100000 in
theorem FlD.start {r : Nat} {M : DataW Value} {w1 w2 : World} (h : DAt w1 F b bm sv N M pv d) (hk : Kept F w w1) (hr : w2.ranges Tryz.prog 3 rawElem bm r N M (Maps.has M) (Maps.size M)) (hg : w1.grownBy w2 none) (hn : w.heap.size ≤ r) :
    FlD w F b bm r sv N pv d (Maps.size M) w2 := by
  have kb : Kept (fun _ => False) w1 w2 := Kept.ofGrown hg (fun i e => by cases e)
  exact ⟨⟨M, d.S, h.kept kb (fun _ _ h => h), hr, rfl, fun k l hl => Or.inl hl⟩, hk.trans (kb.mono (fun _ h => h.elim)) (fun _ _ h => h), hn⟩

set_option maxRecDepth 100000 in
theorem FlD.ranges {r cnt : Nat} {wr : World} (h : FlD w F b bm r sv N pv d cnt wr) : ∃ (M : DataW Value) (S : List (List ByteArray)), DAt wr F b bm sv N M pv ⟨S, d.calls, d.armed, d.down⟩ ∧ wr.ranges Tryz.prog 3 rawElem bm r N M (Maps.has M) cnt ∧ S.length = d.S.length ∧ (∀ (k : Nat) (l : List ByteArray), d.S[k]? = some l → S[k]? = some l ∨ S[k]? = some [last l]) := h.out

set_option maxRecDepth 100000 in
set_option maxHeartbeats 4000000 in
theorem flush_ok (h : DAt w F b bm sv N M pv d) (hF : ∀ i, F i → i < w.heap.size) (hc : d.calls ≤ 100000) (ha : d.armed < 9223372036854775808) (hd : d.down = false) (hq : d.call.down = false) (hmx : ∀ l ∈ d.S, l.length ≤ 100001) :
    Calls Tryz.prog 86 #[.pointer (some ⟨b, 0, none⟩)] w fun e w' => e = .returned (.int .i64 0) ∧ Does At w F (.pointer (some ⟨b, 0, none⟩)) ⟨d.call.S.map fun l => [last l], d.call.calls, d.call.armed, d.call.down⟩ w' := by
  obtain ⟨g, cap, rfl, hg⟩ : ∃ g cap, sv = .slice (some ⟨g, 0, none⟩) d.call.S.length cap ∧ g < w.heap.size := h.safeForm
  have hup := up_any (b := b) h.facts.2.2.2.2.1
  rw [hd, if_neg (by decide)] at hup
  have hcall := call_any h (by omega) ha hd
  rw [hq] at hcall
  have hin := h.inB
  have Hup := Lib.hid hup
  have Hcall := Lib.hid hcall
  have Hmx0 : Hid (∀ l ∈ d.call.S, l.length ≤ 100001) := Lib.hid hmx
  have HF := Lib.hid hF
  have Hfull : Hid (∀ l ∈ d.call.S, 0 < l.length) := Lib.hid h.full
  have Hin := Lib.hid hin
  have Hlen : Hid (d.call.S.length ≤ 4096) := Lib.hid h.few
  clear hup hcall h hmx hF hin hq hd ha hc
  generalize hdc : d.call = dc at *
  clear hdc
  go_enter Tryz.func86, Tryz.ntmps86
  go_wp2_with (go_at_call 108; with_reducible refine Hup.out.mono ?_; rintro e w' ⟨rfl, rfl⟩)
  refine Hcall.out.mono ?_
  rintro e w1 ⟨rfl, h1, hg1⟩
  have c1 := h1.facts.2.1
  have hmp := h1.map
  have hk1 : Hid (Kept F w w1) := Lib.hid (Kept.ofGrown hg1 (fun i e => by injection e with e; subst e; exact Hin.out))
  have H1 := Lib.hid h1
  have Hz1 : Hid (w.heap.size ≤ w1.heap.size) := Lib.hid hg1.size
  clear h1 hg1
  go_wp2_with (at_range; refine wpList_range_own _ rfl _ 71 rfl 3 70 intKeyed Tryz.underlying71 rawElem bm N M rfl hmp ?_; intro w2 hrg2 hg2 hs2)
  have hfl := FlD.start H1.out hk1.out hrg2 hg2 Hz1.out
  clear hrg2 hg2 hs2 hmp c1
  generalize w1.heap.size = r at *
  go_frame
  go_loopw [4, 5] (fun _ _ wr => ∃ cnt, FlD w F b bm r (.slice (some ⟨g, 0, none⟩) dc.S.length cap) N pv dc cnt wr) (fun _ _ wr => wr.rangeLeft bm r)
  case atStart => exact ⟨_, hfl⟩
  case round =>
    clear hfl
    obtain ⟨cnt, hfl⟩ := hrel
    have Hfl := Lib.hid hfl
    obtain ⟨M', S', h1, hrg, h3, h4⟩ := hfl.ranges
    have HD := Lib.hid h1
    have Hr0 := Lib.hid hrg
    have H3 := Lib.hid h3
    have H4 := Lib.hid h4
    have hleft : Hid (wr.rangeLeft bm r = cnt) := Lib.hid hrg.left_eq
    clear hfl h1 h3 h4
    go_wp2_with (at_next; refine wpList_next_ranges wr rfl _ rfl 3 intKeyed rawElem (fun x : Int => Value.int .i64 x) (fun v : Value => v) (fun key kl hkey => by obtain ⟨x, rfl, _⟩ := Maps.keyOf_int_inv Tryz.underlying3 hkey; exact ⟨x, rfl⟩) (fun v _ _ => ⟨v, rfl⟩) bm r N M' _ cnt rfl hrg ?_ ?_)
    · intro h0 hl0
      subst h0
      have hfin : Does At w F (.pointer (some ⟨b, 0, none⟩)) ⟨dc.S.map fun l => [last l], dc.calls, dc.armed, dc.down⟩ wr := FlD.done Hfl.out (M := M') (S := S') HD.out H3.out H4.out hl0 Hfull.out
      have Hfin := Lib.hid hfin
      clear hfin hl0 hrg
      go_wp2_with fail
      go_ret
      exact ⟨rfl, Hfin.out⟩
    · intro x v kl y1 y2 wq cnt' hkey hlk hv hat hrgq hlt hgr hsz hen
      obtain ⟨k, s0, t, rfl, hup⟩ := FlD.next Hfl.out HD.out H3.out H4.out Hr0.out hkey hlk hv hat hrgq hgr
      have Hup2 := Lib.hid hup
      clear hkey hlk hv hat hrgq hgr hsz hrg
      have hsz4 : (k : Int) < (dc.S.length : Int) := by have := hup.lt; omega
      have hk0 : (0 : Int) ≤ (k : Int) := by omega
      have Hs0 : Hid (s0.size = 64) := Lib.hid (hup.sz s0 (by simp))
      have Hx64 : Hid ((last (s0 :: t)).size = 64) := Lib.hid (hup.sz _ (List.mem_of_getElem? (last_get (l := s0 :: t) (by simp))))
      have Hmx : Hid (t.length ≤ 1000000) := Lib.hid (by
        have := Hmx0.out _ (List.mem_of_getElem? hup.orig)
        simp at this; omega)
      have Hk6 : Hid (k ≤ 1000000) := Lib.hid (by have := hup.lt; have := Hlen.out; omega)
      clear hup
      have Hc0 : Hid (∀ w', Below wq.heap.size wq w' → w'.cell? ⟨b, 0, none⟩ = some (.slice (some ⟨g, 0, none⟩) dc.S.length cap)) := Lib.hid (fun w' hb => (Hup2.out.facts hb).1)
      have Hrg : Hid (∀ w', Below wq.heap.size wq w' → w'.rangeAt g (k * 64) (secV s0)) := Lib.hid (fun w' hb => (Hup2.out.facts hb).2.2.1)
      have Hth : Hid (∀ w', Below wq.heap.size wq w' → w'.there g (k * 64) 64) := Lib.hid (fun w' hb => (Hup2.out.facts hb).2.2.2.1)
      have How : Hid (∀ w', Below wq.heap.size wq w' → OwnS w' v t) := Lib.hid (fun w' hb => (Hup2.out.facts hb).2.2.2.2)
      go_wp2_with fail
      clear hen
      refine wp_region_tail (n := 14) (S := (Below wq.heap.size wq)) (by kernel_rfl) (by kernel_rfl) (by rfl) (Below.drew (Below.refl _ _)) (fun hHeld => ?_)
      refine wpAnyH_take (i := 0) (v := ?_) rfl (by kernel_rfl) (by kernel_rfl) (by kernel_rfl) (fun _ _ _ h => h) (Or.inl ⟨by rfl, (by intro w hSw; go_simp; try with_reducible rfl)⟩) (by assumption) ?_
      simp only [Act.put, List.getElem_toArray, List.getElem_cons_zero, List.getElem_cons_succ, List.setIfInBounds_toArray, List.set_cons_zero, List.set_cons_succ]
      refine wpAnyH_take (i := 1) (v := ?_) rfl (by kernel_rfl) (by kernel_rfl) (by kernel_rfl) (fun _ _ _ h => h) (Or.inl ⟨by rfl, (by intro w hSw; go_simp; try with_reducible rfl)⟩) (by assumption) ?_
      simp only [Act.put, List.getElem_toArray, List.getElem_cons_zero, List.getElem_cons_succ, List.setIfInBounds_toArray, List.set_cons_zero, List.set_cons_succ]
      refine wpAnyH_take (i := 2) (v := ?_) rfl (by kernel_rfl) (by kernel_rfl) (by kernel_rfl) (fun _ _ _ h => h) (Or.inl ⟨by rfl, (by intro w hSw; go_simp; try with_reducible rfl)⟩) (by assumption) ?_
      simp only [Act.put, List.getElem_toArray, List.getElem_cons_zero, List.getElem_cons_succ, List.setIfInBounds_toArray, List.set_cons_zero, List.set_cons_succ]
      refine wpAnyH_take (i := 3) (v := ?_) rfl (by kernel_rfl) (by kernel_rfl) (by kernel_rfl) (fun _ _ _ h => h) (Or.inl ⟨by rfl, (by intro w hSw; have c0 := Hc0.out w hSw; go_simp; try with_reducible rfl)⟩) (by assumption) ?_
      simp only [Act.put, List.getElem_toArray, List.getElem_cons_zero, List.getElem_cons_succ, List.setIfInBounds_toArray, List.set_cons_zero, List.set_cons_succ]
      refine wpAnyH_take (i := 4) (v := ?_) rfl (by kernel_rfl) (by kernel_rfl) (by kernel_rfl) (fun _ _ _ h => h) (Or.inl ⟨by rfl, (by intro w hSw; go_simp; try with_reducible rfl)⟩) (by assumption) ?_
      simp only [Act.put, List.getElem_toArray, List.getElem_cons_zero, List.getElem_cons_succ, List.setIfInBounds_toArray, List.set_cons_zero, List.set_cons_succ]
      refine wpAnyH_take (i := 5) (v := ?_) rfl (by kernel_rfl) (by kernel_rfl) (by kernel_rfl) (fun _ _ _ h => h) (Or.inl ⟨by rfl, (by intro w hSw; go_simp; try with_reducible rfl)⟩) (by assumption) ?_
      simp only [Act.put, List.getElem_toArray, List.getElem_cons_zero, List.getElem_cons_succ, List.setIfInBounds_toArray, List.set_cons_zero, List.set_cons_succ]
      refine wpAnyH_take (i := 6) (v := ?_) rfl (by kernel_rfl) (by kernel_rfl) (by kernel_rfl) (fun _ _ _ h => h) (Or.inl ⟨by rfl, (by intro w hSw; go_simp; try with_reducible rfl)⟩) (by assumption) ?_
      simp only [Act.put, List.getElem_toArray, List.getElem_cons_zero, List.getElem_cons_succ, List.setIfInBounds_toArray, List.set_cons_zero, List.set_cons_succ]
      refine wpAnyH_take (i := 7) (v := ?_) rfl (by kernel_rfl) (by kernel_rfl) (by kernel_rfl) (fun _ _ _ h => h) (Or.inl ⟨by rfl, (by intro w hSw; go_simp; try with_reducible rfl)⟩) (by assumption) ?_
      simp only [Act.put, List.getElem_toArray, List.getElem_cons_zero, List.getElem_cons_succ, List.setIfInBounds_toArray, List.set_cons_zero, List.set_cons_succ]
      refine wpAnyH_take (i := 8) (v := ?_) rfl (by kernel_rfl) (by kernel_rfl) (by kernel_rfl) (fun _ _ _ h => h) (Or.inl ⟨by rfl, (by intro w hSw; have c0 := Hc0.out w hSw; go_simp; try with_reducible rfl)⟩) (by assumption) ?_
      simp only [Act.put, List.getElem_toArray, List.getElem_cons_zero, List.getElem_cons_succ, List.setIfInBounds_toArray, List.set_cons_zero, List.set_cons_succ]
      refine wpAnyH_take (i := 9) (v := ?_) rfl (by kernel_rfl) (by kernel_rfl) (by kernel_rfl) (fun _ _ _ h => h) (Or.inl ⟨by rfl, (by intro w hSw; go_simp; try with_reducible rfl)⟩) (by assumption) ?_
      simp only [Act.put, List.getElem_toArray, List.getElem_cons_zero, List.getElem_cons_succ, List.setIfInBounds_toArray, List.set_cons_zero, List.set_cons_succ]
      refine wpAnyH_take (i := 10) (v := ?_) rfl (by kernel_rfl) (by kernel_rfl) (by kernel_rfl) (fun _ _ _ h => h) (Or.inl ⟨by rfl, (by intro w hSw; go_simp; try with_reducible rfl)⟩) (by assumption) ?_
      simp only [Act.put, List.getElem_toArray, List.getElem_cons_zero, List.getElem_cons_succ, List.setIfInBounds_toArray, List.set_cons_zero, List.set_cons_succ]
      refine wpAnyH_take (i := 11) (v := .agg (secV s0).toArray) rfl (by kernel_rfl) (by kernel_rfl) (by kernel_rfl) (fun _ _ _ h => h) (Or.inl ⟨by rfl, (by intro w hSw; refine exec_load (x := .tmp 34) (g := g) (o := k * 64) (by rfl) (by go_simp; try with_reducible rfl) (Hrg.out w hSw) Hs0.out)⟩) (by assumption) ?_
      simp only [Act.put, List.getElem_toArray, List.getElem_cons_zero, List.getElem_cons_succ, List.setIfInBounds_toArray, List.set_cons_zero, List.set_cons_succ]
      refine wpAnyH_take (i := 12) (v := ?_) rfl (by kernel_rfl) (by kernel_rfl) (by kernel_rfl) (fun _ _ _ h => h) (Or.inl ⟨by rfl, (by intro w hSw; go_simp; try with_reducible rfl)⟩) (by assumption) ?_
      simp only [Act.put, List.getElem_toArray, List.getElem_cons_zero, List.getElem_cons_succ, List.setIfInBounds_toArray, List.set_cons_zero, List.set_cons_succ]
      refine wpAnyH_ready (rs := [13]) (by kernel_rfl) (by simp) ?_
      refine AllReadyH.cons rfl (fun K hK => ?_) AllReadyH.nil
      go_simp
      go_at_call 103
      have hl2 := last_any s0 Hs0.out (How.out _ hHeld) Hmx.out
      with_reducible refine hl2.mono ?_
      clear hl2
      rintro e w2 ⟨rfl, hb2⟩
      have hB2 := hHeld.trans (hb2.mono hHeld.size)
      clear hb2
      refine hK.out _ _ hB2 (fun hHeld2 => ?_)
      clear hK K
      refine wpAnyH_done (by kernel_rfl) ?_ _
      refine wpAny_of_held (S := fun _ => True) _ _ _ _ ?_
      have hHeld : True := trivial
      refine wpAnyH_take (i := 14) (v := ?_) rfl (by kernel_rfl) (by kernel_rfl) (by kernel_rfl) (fun _ _ _ h => h) (Or.inl ⟨by rfl, (by intro w hSw; go_simp; try with_reducible rfl)⟩) (by assumption) ?_
      simp only [Act.put, List.getElem_toArray, List.getElem_cons_zero, List.getElem_cons_succ, List.setIfInBounds_toArray, List.set_cons_zero, List.set_cons_succ]
      refine wpAnyH_ready (rs := [15]) (by kernel_rfl) (by simp) ?_
      refine AllReadyH.cons rfl (fun K hK => ?_) AllReadyH.nil
      refine step_mid (.tmp 38) (.tmp 37) (x := last (s0 :: t)) rfl (by rfl) (by go_simp; try with_reducible rfl) (g := g) (q0 := k * 64) (by go_simp; try with_reducible rfl) Hx64.out (Hth.out _ hHeld2) ?_
      refine hK.out _ _ trivial (fun hHeld => ?_)
      clear hK K
      refine wpAnyH_done (by kernel_rfl) ?_ _
      obtain ⟨M2, hr2, c1, hnext⟩ := Hup2.out.round hHeld2
      have Hnext := Lib.hid hnext
      have Hkey : Hid (keyOf Tryz.prog 3 (.int .i64 (k : Int)) = some (key k)) := Lib.hid (key_of Hk6.out)
      clear hnext hHeld hHeld2
      generalize w2.setCells g (k * 64) (secV (last (s0 :: t))) = w3 at *
      go_wp2_with (at_delete; refine wpList_delete_ranges _ rfl _ _ 71 3 rfl 70 intKeyed Tryz.underlying71 rawElem bm r N M2 _ _ rfl hr2 _ (key k) rfl Hkey.out ?_; intro w4 cnt4 hrg4 hle4 hturn4)
      have hfl4 := Hnext.out w4 cnt4 hrg4 hturn4
      have hl4 : w4.rangeLeft bm r = cnt4 := hrg4.left_eq
      have Hl4 := Lib.hid hl4
      clear hrg4 hturn4 hl4 hr2 c1
      go_frame
      go_roundw
      case rel => exact ⟨cnt4, hfl4⟩
      case measure => rw [Hl4.out, hleft.out]; omega

set_option maxRecDepth 100000 in
/-- A flush that is not done. -/
theorem flush_no {v : Value} (h : At w F v d) (hc : d.calls ≤ 100000) (ha : d.armed < 9223372036854775808) (hq : d.down = true ∨ d.call.down = true) :
    Calls Tryz.prog 86 #[v] w fun e w' => e = .returned (.int .i64 d.flush.1) ∧ Does At w F v d.flush.2 w' := by
  have hsm := does_same h
  obtain ⟨b, bm, sv, N, M, pv, rfl, h⟩ := h
  have hup := up_any (b := b) h.facts.2.2.2.2.1
  unfold D.flush
  by_cases hd : d.down = true
  · rw [if_pos hd] at hup ⊢
    have Hup := Lib.hid hup
    have Hsm := Lib.hid hsm
    clear hup h hsm hd hq
    go_enter Tryz.func86, Tryz.ntmps86
    go_wp2_with (go_at_call 108; with_reducible refine Hup.out.mono ?_; rintro e w' ⟨rfl, rfl⟩)
    go_ret
    exact ⟨rfl, Hsm.out⟩
  · rw [if_neg hd] at hup ⊢
    have hq2 : d.call.down = true := hq.resolve_left hd
    rw [if_pos hq2]
    have hcall := call_any h (by omega) ha (by simpa using hd)
    rw [hq2] at hcall
    have fin : Hid (∀ w', DAt w' F b bm sv N M pv d.call → w.grownBy w' (some b) → Does At w F (.pointer (some ⟨b, 0, none⟩)) d.call w') := Lib.hid (fun w' h1 h2 =>
      ⟨⟨b, bm, sv, N, M, pv, rfl, h1.mono (fun _ hi => Or.inl hi)⟩, Kept.ofGrown h2 (fun i e => by injection e with e; subst e; exact h.inB)⟩)
    have Hup := Lib.hid hup
    have Hcall := Lib.hid hcall
    clear hup h hsm hd hq hq2 hcall
    go_enter Tryz.func86, Tryz.ntmps86
    go_wp2_with (go_at_call 108; with_reducible refine Hup.out.mono ?_; rintro e w' ⟨rfl, rfl⟩)
    refine Hcall.out.mono ?_
    rintro e w1 ⟨rfl, h1, hg1⟩
    have f := fin.out w1 h1 hg1
    have Ff := Lib.hid f
    clear f h1 hg1
    go_wp2_with fail
    go_ret
    exact ⟨rfl, Ff.out⟩
end
end Go.Proofs.YtbfjageaheijbaaGreat
