/- The landed store's keys that begin so, in their order. -/
import Derived.Test.YtbfjageaheijbaaGreatCom13
import Derived.Test.YtbfjageaheijbaaGreatCom18
import Derived.Test.YtbfjageaheijbaaGreatCom12
import Derived.Sort.OwnSorted
import Derived.Sort.MapsRangeIn
import Derived.Deep.AppendLies
import Derived.WalkSpells
import Derived.Laws.CopyOwn
set_option linter.unusedSimpArgs false
set_option linter.unusedVariables false
namespace Go.Proofs.YtbfjageaheijbaaGreat
open Go.RowKit Go.Sort

set_option maxRecDepth 100000 in
theorem pre_eq (k p : List UInt8) : Lib.hasPrefix k p = decide (k.take p.length = p) := by
  unfold Lib.hasPrefix
  rw [Bool.eq_iff_iff, List.isPrefixOf_iff_prefix, decide_eq_true_eq, List.prefix_iff_eq_take]
  exact eq_comm

set_option maxRecDepth 100000 in
theorem get_some_iff (l : List Sto.Pr) (k : Sto.Key) : (Sto.get l k).isSome = decide (k ∈ l.map (·.1)) := by
  rw [← datum_has]
  unfold datum
  rw [Maps.has_eq, List.any_map, Bool.eq_iff_iff, List.any_eq_true, decide_eq_true_eq, List.mem_map]
  constructor
  · rintro ⟨x, hx, h⟩
    have h : (Lit.sameKey (.string x.1) (.string k)) = true := h
    rw [same_key] at h
    exact ⟨x, hx, by simpa using h⟩
  · rintro ⟨x, hx, rfl⟩
    refine ⟨x, hx, ?_⟩
    show (Lit.sameKey (.string x.1) (.string x.1)) = true
    rw [same_key]; simp

set_option maxRecDepth 100000 in
theorem keys_nodup {l : List Sto.Pr} (h : Sto.Sorted l) : (l.map (·.1)).Nodup := by
  unfold Sto.Sorted at h
  rw [List.nodup_iff_pairwise_ne, List.pairwise_map]
  refine h.imp ?_
  intro a b hab e
  rw [e] at hab
  exact Sto.klt_irrefl _ hab

set_option maxRecDepth 100000 in
theorem keys_sorted {l : List Sto.Pr} (h : Sto.Sorted l) (p : Sto.Key) : (Sto.keys l p).Pairwise (fun a b => a ≤ b) := by
  unfold Sto.keys
  refine List.Pairwise.filter _ ?_
  rw [List.pairwise_map]
  exact h.imp (fun {a b} hab => List.le_of_lt hab)

set_option maxRecDepth 100000 in
/-- Whatever order keys came in: sorted they are these. -/
theorem sort_keys {l : List Sto.Pr} (h : Sto.Sorted l) (p : Sto.Key) {ss : List Sto.Key} (hp : ss.Perm (Sto.keys l p)) : (ss.mergeSort fun x y => decide (x ≤ y)) = Sto.keys l p := by
  refine List.Perm.eq_of_pairwise (le := fun a b => a ≤ b) ?_ ?_ (keys_sorted h p) ((List.mergeSort_perm _ _).trans hp)
  · intro a b _ _ h1 h2
    exact List.le_antisymm h1 h2
  · have := List.pairwise_mergeSort (le := fun x y : Sto.Key => decide (x ≤ y)) (fun a b c h1 h2 => by simp only [decide_eq_true_eq] at *; exact List.le_trans h1 h2) (fun a b => by simp only [Bool.or_eq_true, decide_eq_true_eq]; exact List.le_total a b) ss
    exact this.imp (fun {a b} h => by simpa using h)

/-- While the map is ranged over. -/
structure KyAt (w : World) (bm r : Nat) (l : List Sto.Pr) (p : Sto.Key) (v : Value) (done : List Sto.Key) (left : Lit → Bool) (cnt : Nat) (wr : World) : Prop where
  rng : wr.ranges Tryz.prog 9 rawElem bm r l.length (datum l) left cnt
  own : wr.ownsRow w.heap.size 9 1 v (done.filter fun k => decide (k.take p.length = p)).length (texts (done.filter fun k => decide (k.take p.length = p)))
  bel : Below w.heap.size w wr
  lft : ∀ k, left (.string k) = (decide (k ∈ l.map (·.1)) && !decide (k ∈ done))
  nod : done.Nodup
  sub : ∀ k ∈ done, k ∈ l.map (·.1)

set_option maxRecDepth 100000 in
theorem KyAt.perm {w wr : World} {bm r cnt : Nat} {l : List Sto.Pr} {p : Sto.Key} {v : Value} {done : List Sto.Key} {left : Lit → Bool} (h : KyAt w bm r l p v done left cnt wr) (hs : Sto.Sorted l) (hl : ∀ kl, left kl = false) :
    (done.filter fun k => decide (k.take p.length = p)).Perm (Sto.keys l p) := by
  refine List.Perm.filter _ ?_
  rw [List.perm_ext_iff_of_nodup h.nod (keys_nodup hs)]
  intro a
  refine ⟨h.sub a, fun ha => ?_⟩
  have := h.lft a
  rw [hl, decide_eq_true ha] at this
  simpa using this

set_option maxRecDepth 100000 in
theorem KyAt.few {w wr : World} {bm r cnt : Nat} {l : List Sto.Pr} {p : Sto.Key} {v : Value} {done : List Sto.Key} {left : Lit → Bool} (h : KyAt w bm r l p v done left cnt wr) (hs : Sto.Sorted l) : (done.filter fun k => decide (k.take p.length = p)).length ≤ l.length := by
  refine Nat.le_trans (List.length_filter_le _ _) ?_
  have h1 : done.Perm ((l.map (·.1)).filter fun k => decide (k ∈ done)) := by
    rw [List.perm_ext_iff_of_nodup h.nod ((keys_nodup hs).filter _)]
    intro a
    rw [List.mem_filter]
    exact ⟨fun ha => ⟨h.sub a ha, by simpa using ha⟩, fun ha => by simpa using ha.2⟩
  rw [h1.length_eq]
  refine Nat.le_trans (List.length_filter_le _ _) ?_
  rw [List.length_map]
  exact Nat.le_refl _

set_option maxRecDepth 100000 in
/-- One key more. -/
theorem KyAt.next {w wr wq : World} {bm r cnt cnt' : Nat} {l : List Sto.Pr} {p : Sto.Key} {v : Value} {done : List Sto.Key} {left : Lit → Bool} (h : KyAt w bm r l p v done left cnt wr) (hr : w.heap.size ≤ r) {x : ByteArray} {kl : Lit} (hkey : keyOf Tryz.prog 9 (.string x) = some kl) (hlk : left kl = true)
    (hrg : wq.ranges Tryz.prog 9 rawElem bm r l.length (datum l) (fun z => left z && !z.sameKey kl) cnt') (hgr : wr.grownBy wq (some r)) :
    x.data.toList ∈ l.map (·.1) ∧ x.data.toList ∉ done ∧ wq.ownsRow w.heap.size 9 1 v (done.filter fun k => decide (k.take p.length = p)).length (texts (done.filter fun k => decide (k.take p.length = p))) ∧ Below w.heap.size w wq ∧
      (∀ k, (fun z => left z && !z.sameKey kl) (.string k) = (decide (k ∈ l.map (·.1)) && !decide (k ∈ done ++ [x.data.toList]))) ∧ (done ++ [x.data.toList]).Nodup ∧ ∀ k ∈ done ++ [x.data.toList], k ∈ l.map (·.1) := by
  have hkl : kl = .string x.data.toList := by
    simp only [keyOf, Tryz.underlying9, mapKey] at hkey
    split at hkey
    · exact (Option.some.inj hkey).symm
    · cases hkey
  subst hkl
  have hx := h.lft x.data.toList
  rw [hlk] at hx
  have hx1 : x.data.toList ∈ l.map (·.1) ∧ x.data.toList ∉ done := by simpa using hx.symm
  refine ⟨hx1.1, hx1.2, h.own.kept hgr (Or.inr (fun e => row_ne_iter h.own h.rng e.symm)), h.bel.grown hgr h.bel.size (fun k hk => by injection hk with hk; omega), fun k => ?_, ?_, fun k hk => ?_⟩
  · show (left (.string k) && !Lit.sameKey (.string k) (.string x.data.toList)) = _
    rw [h.lft, same_key]
    by_cases e : k = x.data.toList
    · simp [e]
    · simp [e]
  · rw [List.nodup_append]
    refine ⟨h.nod, by simp, fun a ha b hb e => ?_⟩
    rw [List.mem_singleton.1 hb] at e
    exact hx1.2 (e ▸ ha)
  · rcases List.mem_append.1 hk with hk | hk
    · exact h.sub k hk
    · rw [List.mem_singleton.1 hk]; exact hx1.1

set_option maxRecDepth 100000 in
theorem strInfoK : (Tryz.prog.info? 9).map (fun i => (i.zero, i.size, i.bytes)) = some (some (.string ⟨#[]⟩), 1, 16) := by kernel_rfl

set_option maxRecDepth 100000 in
set_option maxHeartbeats 3200000 in
theorem sto_vkeys {w : World} {bm : Nat} {l : List Sto.Pr} (h : MapAt w bm l) (hs : Sto.Sorted l) (hf : Sto.Fit l) (hn : l.length ≤ 100000000) (pb : ByteArray) :
    Calls Tryz.prog 48 #[vA bm l, .string pb] w fun e w' => ∃ v, e = .returned v ∧ Cells w' (NewIn w w') v (texts (Sto.keys l pb.data.toList)) ∧ Below w.heap.size w w' := by
  obtain ⟨i0, hi, hz0, hz1, hz2⟩ := info_parts strInfoK
  have hml := h.lt
  have hb0 : Below w.heap.size w (w.alloc (.cells (vcells bm l) 76)) := (Below.refl _ _).alloc (Nat.le_refl _) _
  have hm0 := h.below hb0 hml
  have hz : (w.alloc (.cells (vcells bm l) 76)).heap.size = w.heap.size + 1 := by simp
  have HPre : Hid (∀ (s : ByteArray) (W : World), Calls Tryz.prog 73 #[.string s, .string pb] W fun e w' => e = .returned (.bool (decide (s.data.toList.take pb.data.toList.length = pb.data.toList))) ∧ w' = W) := Lib.hid (fun s W => by
    have := Tryz.strings_HasPrefix s pb W
    rwa [pre_eq] at this)
  generalize pb.data.toList = p at *
  have Hs := Lib.hid hs
  have Hml := Lib.hid hml
  unfold vA
  unfold vcells at *
  clear h hs hf hml
  go_enter Tryz.func48, Tryz.ntmps48
  go_wp2_with (at_range; refine wpList_range_own _ rfl _ 74 rfl 9 110 strKeyed Tryz.underlying74 rawElem bm l.length (datum l) rfl hm0 ?_; intro w2 hrg2 hg2 hs2)
  have hr1 : w.heap.size ≤ (w.alloc (.cells #[.map (some bm), .int .i64 (Sto.bytes l : Int), .int .i64 (Sto.whole l : Int)] 76)).heap.size := hb0.size
  have hstart : KyAt w bm _ l p (.slice none 0 0) [] (Maps.has (datum l)) (Maps.size (datum l)) w2 := ⟨hrg2, World.ownsRow_nil _ _ _ _, hb0.grown hg2 (by omega) (fun k hk => by cases hk), fun k => by rw [datum_has, get_some_iff]; simp, List.nodup_nil, fun k hk => by cases hk⟩
  have Hstart := Lib.hid hstart
  clear hrg2 hg2 hs2 hstart hm0 hb0 hz
  generalize (w.alloc (.cells #[.map (some bm), .int .i64 (Sto.bytes l : Int), .int .i64 (Sto.whole l : Int)] 76)).heap.size = r at *
  have Hr1 := Lib.hid hr1
  clear hr1
  go_frame
  go_loopw [5, 6] (fun v _ wr => ∃ done left cnt, KyAt w bm r l p v done left cnt wr) (fun _ _ wr => wr.rangeLeft bm r)
  case atStart => exact ⟨_, _, _, Hstart.out⟩
  case round =>
    clear Hstart
    obtain ⟨done, left, cnt, hat⟩ := hrel
    have HAt := Lib.hid hat
    have hrng := hat.rng
    have hleft : Hid (wr.rangeLeft bm r = cnt) := Lib.hid hat.rng.left_eq
    have hown := hat.own
    clear hat
    go_wp2_with (at_next; refine wpList_next_ranges wr rfl _ rfl 9 strKeyed rawElem (fun x : ByteArray => Value.string x) (fun v : Value => v) (fun key kl hkey => Maps.keyOf_string_inv Tryz.underlying9 hkey) (fun v _ _ => ⟨v, rfl⟩) bm r l.length (datum l) left cnt rfl hrng ?_ ?_)
    · intro h0 hl0
      have hperm := Lib.hid (HAt.out.perm Hs.out hl0)
      have hsort := Lib.hid (sort_keys Hs.out p hperm.out)
      have hfew := HAt.out.few Hs.out
      generalize (done.filter fun k => decide (k.take p.length = p)) = ss at *
      rcases hown.2 with ⟨rfl, hz0⟩ | ⟨g, cap, cur, rfl, hg0, hgb, hgc, hm9, hs9, ht9⟩
      · have hss : ss = [] := List.eq_nil_of_length_eq_zero hz0
        have hk : Hid (Sto.keys l p = []) := Lib.hid (by have := hperm.out; rw [hss] at this; exact (List.Perm.nil_eq this).symm)
        have HN := Lib.hid (Tryz.slices_Sort_string_none none 0 wr)
        have Hb := Lib.hid HAt.out.bel
        clear hown hsort hperm hss hl0 hrng hfew hz0
        go_wp2_with (go_at_call 74; refine HN.out.mono ?_; rintro e w' ⟨rfl, rfl⟩)
        go_ret
        refine ⟨_, rfl, ?_, Hb.out⟩
        rw [hk.out]
        exact Cells.none _ _
      · have hb9 : g < wr.heap.size := (Array.getElem?_eq_some_iff.1 hgb).1
        have HSo := Lib.hid (Tryz.slices_Sort_string g 0 cap ss wr (holds_of_block hgb (by rw [Nat.mul_one] at ht9; exact ht9)) hb9 (by omega))
        have hfin : Hid (∀ w', (∃ n os, w' = grow (putRow encStr (Sort.ahead wr n) g 0 (ss.mergeSort fun x y => decide (x ≤ y)).toArray) os) → Cells w' (NewIn w w') (.slice (some ⟨g, 0, none⟩) ss.length cap) (texts (Sto.keys l p)) ∧ Below w.heap.size w w') := Lib.hid (by
          rintro w' ⟨n, os, rfl⟩
          have hl9 : (ss.mergeSort fun x y => decide (x ≤ y)).length = ss.length := List.length_mergeSort _
          have ho := ownsRow_sorted (w := wr) (base := w.heap.size) (n := n) (os := os) (ts := ss.mergeSort fun x y => decide (x ≤ y)) hl9 hg0 hgb hgc hm9 (by rw [hs9])
          rw [hsort.out] at ho hl9 ⊢
          have he : (Sto.keys l p).map encStr = texts (Sto.keys l p) := rfl
          rw [he] at ho
          exact ⟨Cells.ofOwn ho (fun b h1 h2 h3 => ⟨h2, h3⟩), HAt.out.bel.grown (grownBy_sorted _) HAt.out.bel.size (fun k hk => by injection hk with hk; omega)⟩)
        clear hown hsort hperm hl0 hrng hfew hgb ht9 hs9 hm9 hgc
        go_wp2_with (go_at_call 74; refine HSo.out.mono ?_; rintro e w' ⟨rfl, hw9⟩; have Hw9 := Lib.hid (hfin.out w' hw9); clear hw9)
        go_ret
        exact ⟨_, rfl, Hw9.out.1, Hw9.out.2⟩
    · intro x v kl y1 y2 wq cnt' hkey hlk hv hatk hrgq hlt hgr hsz hen
      obtain ⟨-, -, hownq, hbq, hlq, hnq, hsq⟩ := HAt.out.next Hr1.out hkey hlk hrgq hgr
      have hfew := HAt.out.few Hs.out
      have HP := Lib.hid (HPre.out x)
      have hne : some r ≠ u5.ownBlock := row_ne_iter hownq hrgq
      have Hq : Hid (wq.rangeLeft bm r = cnt') := Lib.hid hrgq.left_eq
      have Hlt := Lib.hid hlt
      have hfil : (done ++ [x.data.toList]).filter (fun k => decide (k.take p.length = p)) = done.filter (fun k => decide (k.take p.length = p)) ++ (if x.data.toList.take p.length = p then [x.data.toList] else []) := by
        rw [List.filter_append]
        congr 1
        by_cases e : x.data.toList.take p.length = p <;> simp [e]
      by_cases hp : x.data.toList.take p.length = p
      · rw [decide_eq_true hp] at HP
        rw [if_pos hp] at hfil
        have hmore : Hid (∀ w3 v', w3.ownsRow w.heap.size 9 1 v' ((done.filter (fun k => decide (k.take p.length = p))).length + 1) (texts (done.filter (fun k => decide (k.take p.length = p))) ++ [.string x]) → (wq.alloc (.cells #[.string x] 9)).grownBy w3 u5.ownBlock →
            KyAt w bm r l p v' (done ++ [x.data.toList]) (fun z => left z && !z.sameKey kl) cnt' w3) := Lib.hid (by
          intro w3 v' ho hg
          refine ⟨?_, ?_, ?_, hlq, hnq, hsq⟩
          · refine (hrgq.alloc _).kept hg (fun e => ?_) hne
            have := (hownq.lt bm e.symm).1
            have := Hml.out
            omega
          · rw [hfil, List.length_append, List.length_singleton]
            have e2 : texts (done.filter (fun k => decide (k.take p.length = p)) ++ [x.data.toList]) = texts (done.filter (fun k => decide (k.take p.length = p))) ++ [.string x] := by
              unfold texts
              rw [List.map_append]
              simp [mk_of]
            rw [e2]
            exact ho
          · exact ((hbq.alloc hbq.size _).grown hg (by have := hbq.size; simp; omega) (fun k hk => (hownq.lt k hk).1)))
        have hz9 := hbq.size
        have hc1 : ∀ {w1 : World} i u, [Value.string x][i]? = some u → (w1.alloc (.cells #[.string x] 9)).cell? ((⟨w1.heap.size, 0, none⟩ : Addr).add i) = some u := by
          intro w1 i u hi
          match i, hi with
          | 0, hi => simp at hi; subst hi; simp [Addr.add]
        clear hkey hlk hv hatk hrgq hgr hrng hown hfil hbq hlq hnq hsq hp hlt hne hsz
        generalize done.filter (fun k => decide (k.take p.length = p)) = ss at *
        go_wp2_with (first
          | (go_at_call 73; refine (HP.out wq).mono ?_; rintro e w' ⟨rfl, rfl⟩; clear hen)
          | (at_builtin; refine wpList_append_own _ rfl _ _ 55 rfl w.heap.size 9 i0 (.string ⟨#[]⟩) 1 16 Tryz.underlying55 hi hz0 hz1 hz2 rfl (by decide) _ _ _ rfl (hownq.alloc _) ⟨_, 0, none⟩ 1 1 [.string x] rfl rfl hc1 ?c2 ?c3 ?c4 ?c5 ?_; (case c2 => (intro u hu; simp at hu; subst hu; rfl)); (case c3 => (unfold maxLen; omega)); (case c4 => omega); (case c5 => (simp; omega)); intro v' w3 hown' hgrow' _; have Hmore := Lib.hid (hmore.out w3 v' hown' hgrow'); clear hown' hgrow' hownq))
        go_roundw
        case rel => exact ⟨_, _, _, Hmore.out⟩
        case measure => rw [hleft.out, Hmore.out.rng.left_eq]; exact Hlt.out
      · rw [decide_eq_false hp] at HP
        rw [if_neg hp, List.append_nil] at hfil
        have hmore : Hid (KyAt w bm r l p u5 (done ++ [x.data.toList]) (fun z => left z && !z.sameKey kl) cnt' wq) := Lib.hid ⟨hrgq, by rw [hfil]; exact hownq, hbq, hlq, hnq, hsq⟩
        clear hkey hlk hv hatk hrgq hgr hrng hown hfil hbq hlq hnq hsq hp hlt hne hsz hownq
        go_wp2_with (go_at_call 73; refine (HP.out wq).mono ?_; rintro e w' ⟨rfl, rfl⟩; clear hen)
        go_roundw
        case rel => exact ⟨_, _, _, hmore.out⟩
        case measure => rw [hleft.out, Hq.out]; exact Hlt.out
end Go.Proofs.YtbfjageaheijbaaGreat
/- The landed disk: what stands in a sector; one more copy of sectors. -/
set_option linter.unusedSimpArgs false
set_option linter.unusedVariables false
namespace Go.Proofs.YtbfjageaheijbaaGreat
open Go.RowKit Dsk

set_option maxRecDepth 100000 in
theorem secInfo : (Tryz.prog.info? 93).map (·.size) = some 64 := by kernel_rfl
set_option maxRecDepth 100000 in
theorem secZero : (Tryz.prog.info? 93).map (fun i => (i.zero, i.size)) = some (some (.agg (secV (fill ⟨#[]⟩)).toArray), 64) := by kernel_rfl

set_option maxRecDepth 100000 in
theorem load_sec {w : World} {g o : Nat} {s : ByteArray} (h : w.rangeAt g o (secV s)) (hs : s.size = 64) : (Instr.loadAt 93 (.pointer (some ⟨g, o, none⟩))).run Tryz.prog w = .ok (.agg (secV s).toArray) w :=
  run_loadAt_mid w g o _ _ _ h Tryz.underlying93 rfl (by rw [secV_len, hs]; exact secInfo)

set_option maxRecDepth 100000 in
theorem last_snoc (l : List ByteArray) (s : ByteArray) : last (l ++ [s]) = s := by simp [last]

set_option maxRecDepth 100000 in
theorem last_get {l : List ByteArray} (h : 0 < l.length) : l[l.length - 1]? = some (last l) := by
  unfold last
  rw [List.getLastD_eq_getLast?, List.getLast?_eq_getElem?, List.getElem?_eq_getElem (by omega)]
  rfl

set_option maxRecDepth 100000 in
theorem sec_size {s : ByteArray} (hs : s.size = 64) : (Tryz.prog.info? 93).map (·.size) = some (secV s).toArray.size := by
  rw [List.size_toArray, secV_len, hs]; exact secInfo

set_option maxRecDepth 100000 in
theorem fill_nil : (fill ⟨#[]⟩).size = 64 := fill_size _ (by decide)

set_option maxRecDepth 100000 in
theorem last_any {w : World} {pv : Value} {L : List ByteArray} (s : ByteArray) (hs : s.size = 64) (h : OwnS w pv L) (hm : L.length ≤ 1000000) :
    Calls Tryz.prog 103 #[.agg (secV s).toArray, pv] w fun e w' => e = .returned (.agg (secV (last (s :: L))).toArray) ∧ Below w.heap.size w w' := by
  have hz := (zero_of_info secZero).1
  have hbel : ∀ a b c : Array Value, Below w.heap.size w (((w.alloc (.cells a 93)).alloc (.cells b 93)).setRow (w.heap.size + 1) c) := fun a b c => below_setRow (((Below.refl _ _).alloc (Nat.le_refl _) _).alloc (by simp) _) (Nat.le_succ _) _
  have Hbel := Lib.hid hbel
  clear hbel
  by_cases hp : 0 < L.length
  · obtain ⟨g, cap, rfl, hg⟩ := h.form hp
    have hr := h.range (last_get hp)
    have e : last (s :: L) = last L := by
      cases L with
      | nil => cases hp
      | cons x L => rfl
    rw [e]
    have hb : decide ((L.length : Int) > 0) = true := by simpa using hp
    have h64 : (last L).size = 64 := h.2 _ (List.mem_of_getElem? (last_get hp))
    have k0 : (0 : Int) ≤ (L.length : Int) - 1 := by omega
    have k1 : (L.length : Int) - 1 < (L.length : Int) := by omega
    have kw : ((L.length : Int) - 1).toNat = L.length - 1 := by omega
    generalize last L = t at *
    have hld := World.rangeAt_alloc (World.rangeAt_alloc hr (.cells (secV s).toArray 93)) (.cells (secV (fill ⟨#[]⟩)).toArray 93)
    have hsz := sec_size h64
    have hsl : (Tryz.prog.info? 93).map (·.size) = some (secV t).length := by rw [secV_len, h64]; exact secInfo
    have Hsz := Lib.hid hsz
    have Hsl := Lib.hid hsl
    have Hld := Lib.hid hld
    have Hz := Lib.hid hz
    clear e hr h hsz hsl hld hz
    go_enter Tryz.func103, Tryz.ntmps103
    have hz := Hz.out
    go_wp2_with (first | refine wpList_load_mid rfl 93 (.tmp 13) (by rfl) g ((L.length - 1) * 64) (by rfl) (secV t) _ Hld.out Tryz.underlying93 rfl Hsl.out ?_ | refine wpList_store_row rfl 93 (.tmp 4) (.tmp 14) (by rfl) (w.heap.size + 1) _ (by rfl) (by rfl) 93 _ (heap_alloc2_new w _ _) Hsz.out (by rw [List.size_toArray, List.size_toArray, secV_len, secV_len, fill_nil, h64]) (all_oneCell_toArray (secV_one _)) ?_)

    exact bodyPost_ret (v := .agg (secV t).toArray) (results_cell_row (by rfl) _ _ (w.heap.size + 1) 93 _ (0, 0) _ (by rfl) (setRow_heap _ _ _ _ _ _ (heap_alloc2_new w _ _)) Tryz.underlying93 rfl Hsz.out) rfl ⟨rfl, Hbel.out _ _ _⟩
  · have hL : L = [] := List.eq_nil_of_length_eq_zero (by omega)
    subst hL
    obtain ⟨A, cap, rfl⟩ := h.any
    have hr : (w.alloc (.cells (secV s).toArray 93)).rangeAt w.heap.size 0 (secV s) := by
      have := World.rangeAt_of_block (heap_alloc_new w (.cells (secV s).toArray 93)) 0 64
      have e : ((secV s).toArray.extract 0 (0 + 64)).toList = secV s := by
        rw [show 0 + 64 = (secV s).toArray.size by rw [List.size_toArray, secV_len, hs], Array.extract_size]
      rwa [e] at this
    have hld := World.rangeAt_alloc hr (.cells (secV (fill ⟨#[]⟩)).toArray 93)
    have hsz := sec_size hs
    have hsl : (Tryz.prog.info? 93).map (·.size) = some (secV s).length := by rw [secV_len, hs]; exact secInfo
    have Hsz := Lib.hid hsz
    have Hsl := Lib.hid hsl
    have Hld := Lib.hid hld
    have Hz := Lib.hid hz
    have e : last [s] = s := rfl
    rw [e]
    clear e hr h hsz hsl hld hz
    go_enter Tryz.func103, Tryz.ntmps103
    have hz := Hz.out
    go_wp2_with (first | refine wpList_load_mid rfl 93 (.tmp 2) (by rfl) w.heap.size 0 (by rfl) (secV s) _ Hld.out Tryz.underlying93 rfl Hsl.out ?_ | refine wpList_store_row rfl 93 (.tmp 4) (.tmp 15) (by rfl) (w.heap.size + 1) _ (by rfl) (by rfl) 93 _ (heap_alloc2_new w _ _) Hsz.out (by rw [List.size_toArray, List.size_toArray, secV_len, secV_len, fill_nil, hs]) (all_oneCell_toArray (secV_one _)) ?_)
    exact bodyPost_ret (v := .agg (secV s).toArray) (results_cell_row (by rfl) _ _ (w.heap.size + 1) 93 _ (0, 0) _ (by rfl) (setRow_heap _ _ _ _ _ _ (heap_alloc2_new w _ _)) Tryz.underlying93 rfl Hsz.out) rfl ⟨rfl, Hbel.out _ _ _⟩

set_option maxRecDepth 100000 in
theorem secInfo3 : (Tryz.prog.info? 93).map (fun i => (i.zero, i.size, i.bytes)) = some (some (.agg (secV (fill ⟨#[]⟩)).toArray), 64, 64) := by kernel_rfl

end Go.Proofs.YtbfjageaheijbaaGreat
