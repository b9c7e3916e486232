/- The document's own answers of layer 11: Text, Number. -/
import Derived.Test.YtabnfaonlkipbaaGreatDoorCom12
import Derived.Test.YtabnfaonlkipbaaGreatDoorCom11
import Derived.Test.YtabnfaonlkipbaaGreatDoorCom8
import Derived.Test.YtabnfaonlkipbaaGreatDoorCom3
import Derived.Sort.Walk0
set_option linter.unusedSimpArgs false
set_option linter.unusedVariables false
namespace Go.Proofs.YtabnfaonlkipbaaGreatDoor
open Go.RowKit

def Flg.textTo (f : List Flt.Cl) (k : Nat) : List UInt8 := Flg.joinC 44 ((f.take k).map Flg.one)
set_option maxRecDepth 100000 in
theorem Flg.textTo_next {f : List Flt.Cl} {k : Nat} {c : Flt.Cl} (hc : f[k]? = some c) : Flg.textTo f (k + 1) = if 0 < k then Flg.textTo f k ++ 44 :: Flg.one c else Flg.one c := by
  obtain ⟨hl, he⟩ := List.getElem?_eq_some_iff.1 hc
  unfold Flg.textTo
  rw [List.take_succ_eq_append_getElem hl, he, List.map_append]
  by_cases hk : 0 < k
  · rw [if_pos hk]
    refine Flg.join_more 44 _ _ ?_
    intro e
    have := congrArg List.length e
    rw [List.length_map, List.length_take, List.length_nil] at this
    omega
  · obtain rfl : k = 0 := by omega
    rw [if_neg hk]
    rfl
set_option maxRecDepth 100000 in
theorem Flg.textTo_len {f : List Flt.Cl} (h : ∀ c ∈ f, Flt.Right c) (k : Nat) (hk : k ≤ 1000) : (Flg.textTo f k).length ≤ 49000 := by
  have := Flg.join_len 44 ((f.take k).map Flg.one) 48 (fun a ha => by
    obtain ⟨c, hc, rfl⟩ := List.mem_map.1 ha
    exact Flg.one_len (h c (List.mem_of_mem_take hc)))
  rw [List.length_map, List.length_take] at this
  unfold Flg.textTo
  have h2 : min k f.length * (48 + 1) ≤ 1000 * 49 := Nat.mul_le_mul_right _ (by omega)
  omega

set_option maxRecDepth 100000 in
set_option maxHeartbeats 3200000 in
theorem ref_text11 {w : World} {F : Nat → Prop} {v : Value} {f : List Flt.Cl} (h : Cls w F v f) (hl : f.length ≤ 1000) (hr : ∀ c ∈ f, Flt.Right c) :
    Calls Tryz.prog 11 #[v] w fun e w' => e = .returned (.string (mk (Flg.text f))) ∧ Below w.heap.size w w' := by
  obtain ⟨A, cap, rfl, hcap⟩ := h.parts
  have H := Lib.hid h
  have HR := Lib.hid hr
  have ON := Lib.hid (fun (c : Flt.Cl) (hc : Flt.Right c) (W : World) => ref_one11 c W hc)
  have TL := Lib.hid (fun k hk => Flg.textTo_len hr k hk)
  have hl' : (f.length : Int) ≤ 1000 := by omega
  have HL := Lib.hid hl
  clear h hr hl
  by_cases h0 : f.length = 0
  · have hf : Hid (Flg.text f = [33]) := Lib.hid (by unfold Flg.text; rw [if_pos (List.length_eq_zero_iff.1 h0)])
    have b0 : ((f.length : Int) == 0) = true := by rw [h0]; rfl
    clear h0
    go_enter Tryz.func11, Tryz.ntmps11
    go_wp2_with fail
    go_ret
    exact ⟨by rw [hf.out]; rfl, Below.refl _ _⟩
  · have hf : Hid (Flg.text f = Flg.textTo f f.length) := Lib.hid (by
      unfold Flg.text Flg.textTo
      rw [if_neg (fun e => h0 (by rw [e]; rfl)), List.take_length])
    have b0 : ((f.length : Int) == 0) = false := by rw [beq_eq_false_iff_ne]; omega
    go_enter Tryz.func11, Tryz.ntmps11
    go_wp2_with fail
    go_loopw [3, 4] (fun s i wr => ∃ k : Nat, k ≤ f.length ∧ i = .int .i64 (k : Int) ∧ s = .string (mk (Flg.textTo f k)) ∧ Below w.heap.size w wr) (fun _ i _ => f.length - (intOf i).toNat)
    case atStart => exact ⟨0, Nat.zero_le _, rfl, rfl, Below.refl _ _⟩
    case round =>
      obtain ⟨k, hk, rfl, rfl, hbel⟩ := hrel
      have Hbel := Lib.hid hbel
      by_cases hlt : k < f.length
      · obtain ⟨b, o, cap', e, -, -, hb⟩ := H.out.block (by omega)
        injection e with e1 e2 e3
        subst e1 e3
        clear e2
        obtain ⟨x, hx⟩ : ∃ x, f[k]? = some x := ⟨_, List.getElem?_eq_getElem hlt⟩
        have hrx := HR.out x (List.mem_of_getElem? hx)
        have hn0 : (0 : Int) ≤ (k : Int) := by omega
        have hn1 : (k : Int) < (f.length : Int) := by omega
        obtain ⟨c0, c1, c2⟩ := Cls.at (H.out.below hbel) hx
        have hnext := Flg.textTo_next hx
        have OX := Lib.hid (fun W => ON.out x hrx W)
        have lx : (mk (Flg.one x)).size ≤ 48 := by rw [mk_len]; exact Flg.one_len hrx
        have lt : (mk (Flg.textTo f k)).size ≤ 49000 := by rw [mk_len]; exact TL.out k (by have := HL.out; omega)
        by_cases hk0 : 0 < k
        · rw [if_pos hk0] at hnext
          have hnx : Hid (mk (Flg.textTo f k) ++ ⟨#[44]⟩ ++ mk (Flg.one x) = mk (Flg.textTo f (k + 1))) := Lib.hid (by
            rw [hnext]
            exact bytes_ext (by simp [ByteArray.data_append, mk]))
          have g1 : decide ((0 : Int) < (k : Int)) = true := decide_eq_true (by omega)
          have g2 : decide (0 < k) = true := decide_eq_true hk0
          have n1 : ¬ 9223372036854775807 < (mk (Flg.textTo f k)).size + 1 := by omega
          have n2 : ¬ 9223372036854775807 < (mk (Flg.textTo f k)).size + 1 + (mk (Flg.one x)).size := by omega
          clear hx hrx hnext hbel
          generalize mk (Flg.one x) = y at *
          generalize mk (Flg.textTo f k) = t at *
          go_wp2_with (go_at_call 25; refine (OX.out _).mono ?_; rintro e w2 ⟨rfl, hb2⟩)
          refine ⟨⟨k + 1, by omega, by go_num, by rw [← hnx.out], Hbel.out.trans (hb2.mono Hbel.out.size)⟩, ?_⟩
          show f.length - ((k : Int) + 1).toNat < f.length - (k : Int).toNat
          omega
        · rw [if_neg hk0] at hnext
          have hnx : Hid (mk (Flg.textTo f k) ++ mk (Flg.one x) = mk (Flg.textTo f (k + 1))) := Lib.hid (by
            rw [hnext]
            obtain rfl : k = 0 := by omega
            exact bytes_ext (by simp [ByteArray.data_append, mk, Flg.textTo, Flg.joinC]))
          have g1 : decide ((0 : Int) < (k : Int)) = false := decide_eq_false (by omega)
          have g2 : decide (0 < k) = false := decide_eq_false hk0
          have n2 : ¬ 9223372036854775807 < (mk (Flg.textTo f k)).size + (mk (Flg.one x)).size := by omega
          clear hx hrx hnext hbel
          generalize mk (Flg.one x) = y at *
          generalize mk (Flg.textTo f k) = t at *
          go_wp2_with (go_at_call 25; refine (OX.out _).mono ?_; rintro e w2 ⟨rfl, hb2⟩)
          refine ⟨⟨k + 1, by omega, by go_num, by rw [← hnx.out], Hbel.out.trans (hb2.mono Hbel.out.size)⟩, ?_⟩
          show f.length - ((k : Int) + 1).toNat < f.length - (k : Int).toNat
          omega
      · obtain rfl : k = f.length := by omega
        clear hbel
        go_wp2_with fail
        go_ret
        exact ⟨by rw [hf.out]; rfl, Hbel.out⟩

set_option maxRecDepth 100000 in
set_option maxHeartbeats 1600000 in
theorem ref_number11 (s : List UInt8) (w : World) : Calls Tryz.prog 44 #[.string (mk s)] w fun e w' => e = .returned (.int .i64 (Flg.number s)) ∧ Below w.heap.size w w' := by
  have DI := Lib.hid (fun (n : Nat) (hn : n ≤ 9223372036854775807) (W : World) => ref_digits n W hn)
  go_enter Tryz.func44, Tryz.ntmps44
  go_wp2_with fail
  go_loopw [3] (fun i wr => ∃ k : Nat, k ≤ 201 ∧ i = .int .i64 (k : Int) ∧ Hid (∀ m, m < k → Flg.digits m ≠ s) ∧ Below w.heap.size w wr) (fun i _ => 201 - (intOf i).toNat)
  case atStart => exact ⟨0, Nat.zero_le _, rfl, Lib.hid (fun m hm => absurd hm (by omega)), Below.refl _ _⟩
  case round =>
    obtain ⟨k, hk, rfl, hno, hbel⟩ := hrel
    have Hbel := Lib.hid hbel
    clear hbel
    by_cases hlt : k ≤ 200
    · have hn1 : (k : Int) ≤ 200 := by omega
      have DK := Lib.hid (fun W => DI.out k (by omega) W)
      have es := str_same (Flg.digits k) s
      by_cases he : Flg.digits k = s
      · have hnum : Hid (Flg.number s = (k : Int)) := Lib.hid (by rw [← he]; exact Flg.number_digits hlt)
        rw [decide_eq_true he] at es
        clear he hno
        generalize mk (Flg.digits k) = t at *
        generalize mk s = u at *
        go_wp2_with (go_at_call 43; refine (DK.out _).mono ?_; rintro e w2 ⟨rfl, hb2⟩)
        go_ret
        exact ⟨by rw [hnum.out]; rfl, Hbel.out.trans (hb2.mono Hbel.out.size)⟩
      · have hno2 : Hid (∀ m, m < k + 1 → Flg.digits m ≠ s) := Lib.hid (fun m hm => by
          by_cases e : m = k
          · rw [e]; exact he
          · exact hno.out m (by omega))
        rw [decide_eq_false he] at es
        clear he hno
        generalize mk (Flg.digits k) = t at *
        generalize mk s = u at *
        go_wp2_with (go_at_call 43; refine (DK.out _).mono ?_; rintro e w2 ⟨rfl, hb2⟩)
        refine ⟨⟨k + 1, by omega, by go_num, hno2, Hbel.out.trans (hb2.mono Hbel.out.size)⟩, ?_⟩
        show 201 - ((k : Int) + 1).toNat < 201 - (k : Int).toNat
        omega
    · obtain rfl : k = 201 := by omega
      have hnum : Hid (Flg.number s = -1) := Lib.hid (Flg.number_none (fun n hn => hno.out n (by omega)))
      clear hno
      go_wp2_with fail
      go_ret
      exact ⟨by rw [hnum.out]; rfl, Hbel.out⟩
end Go.Proofs.YtabnfaonlkipbaaGreatDoor
/- The document's own answers of layer 9: Prefixes. -/
set_option linter.unusedSimpArgs false
set_option linter.unusedVariables false
namespace Go.Proofs.YtabnfaonlkipbaaGreatDoor
open Go.RowKit

def txV (t : List UInt8) : List Value := [.string (mk t)]
set_option maxRecDepth 100000 in
theorem tx_one (t : List UInt8) : ∀ u ∈ txV t, u.oneCell' = true := by intro u hu; unfold txV at hu; rw [List.mem_singleton.1 hu]; rfl
abbrev Txs (w : World) (F : Nat → Prop) (v : Value) (l : List (List UInt8)) : Prop := Rws 1 txV w F v l
set_option maxRecDepth 100000 in
theorem txs_flat (l : List (List UInt8)) : l.flatMap txV = texts l := by
  unfold texts
  induction l with
  | nil => rfl
  | cons x l ih => rw [List.flatMap_cons, ih]; rfl
set_option maxRecDepth 100000 in
theorem Txs.cells {w : World} {F : Nat → Prop} {v : Value} {l : List (List UInt8)} (h : Txs w F v l) : Cells w F v (texts l) := by
  obtain ⟨A, c, rfl, hc, hat⟩ := h
  refine ⟨A, c, by rw [texts_len], by rw [texts_len]; exact hc, fun hp => ?_⟩
  rw [texts_len] at hp
  obtain ⟨b, o, rfl, h1, h2, h3⟩ := hat hp
  refine ⟨b, o, rfl, h1, h2, fun i u hu => ?_⟩
  unfold texts at hu
  rw [List.getElem?_map] at hu
  cases hx : l[i]? with
  | none => rw [hx] at hu; cases hu
  | some x =>
    rw [hx] at hu
    have := h3 i x hx 0 u (by simpa [txV] using hu)
    rw [Nat.mul_one] at this
    exact this
set_option maxRecDepth 100000 in
theorem Txs.at {w : World} {F : Nat → Prop} {b o : Nat} {n cap : Nat} {l : List (List UInt8)} (h : Txs w F (.slice (some ⟨b, o, none⟩) n cap) l) {i : Nat} {x : List UInt8} (hx : l[i]? = some x) : w.cell? ⟨b, o + i, none⟩ = some (.string (mk x)) := by
  obtain ⟨A, c, e, -, hat⟩ := h
  injection e with e1 e2 e3
  obtain ⟨b', o', e, -, -, hc⟩ := hat (by obtain ⟨hl, _⟩ := List.getElem?_eq_some_iff.1 hx; omega)
  rw [e] at e1
  injection e1 with e1
  injection e1 with e1 e2
  subst e1 e2
  have := hc i x hx 0 _ rfl
  rwa [Nat.mul_one] at this
set_option maxRecDepth 100000 in
theorem tx_made (w : World) (t : TypeId) (p : List UInt8) : Txs (w.alloc (.cells #[.string (mk p)] t)) (fun i => i = w.heap.size) (.slice (some ⟨w.heap.size, 0, none⟩) 1 1) [p] := by
  refine ⟨_, 1, rfl, Nat.le_refl _, fun _ => ⟨w.heap.size, 0, rfl, rfl, by simp, fun i x hx j u hu => ?_⟩⟩
  rw [(Row.made w _ _).at, Nat.zero_add]
  match i, hx with
  | 0, hx =>
    injection hx with hx
    subst hx
    match j, hu with
    | 0, hu => simpa [txV] using hu

set_option maxRecDepth 100000 in
theorem ins_cut : ∀ (l : List Flt.Tx) (k : Flt.Tx) (n : Nat), (∀ j x, j < n → l[j]? = some x → x < k) → (∀ x, l[n]? = some x → ¬ x < k) → n ≤ l.length → l.takeWhile (fun q => decide (q < k)) = l.take n ∧ l.dropWhile (fun q => decide (q < k)) = l.drop n
  | [], k, n, _, _, hn => by
    have : n = 0 := by simpa using hn
    subst this
    exact ⟨rfl, rfl⟩
  | y :: l, k, 0, _, h2, _ => by
    have hy := h2 y rfl
    exact ⟨by rw [List.takeWhile_cons, if_neg (by simpa using hy)]; rfl, by rw [List.dropWhile_cons, if_neg (by simpa using hy)]; rfl⟩
  | y :: l, k, n + 1, h1, h2, hn => by
    have hy := h1 0 y (by omega) rfl
    obtain ⟨r1, r2⟩ := ins_cut l k n (fun j x hj hx => h1 (j + 1) x (by omega) (by simpa using hx)) (fun x hx => h2 x (by simpa using hx)) (by simpa using hn)
    exact ⟨by rw [List.takeWhile_cons, if_pos (by simpa using hy), r1]; rfl, by rw [List.dropWhile_cons, if_pos (by simpa using hy), r2]; rfl⟩
set_option maxRecDepth 100000 in
theorem Flt.ins_at {l : List Flt.Tx} {k : Flt.Tx} {n : Nat} (h1 : ∀ j x, j < n → l[j]? = some x → x < k) (h2 : ∀ x, l[n]? = some x → ¬ x < k) (hn : n ≤ l.length) : Flt.ins l k = if l[n]? = some k then l else l.take n ++ [k] ++ l.drop n := by
  obtain ⟨r1, r2⟩ := ins_cut l k n h1 h2 hn
  unfold Flt.ins
  rw [r1, r2, List.head?_drop]
  simp
set_option maxRecDepth 100000 in
theorem Flt.prefixes_take {f : List Flt.Cl} {n : Nat} {c : Flt.Cl} (hc : f[n]? = some c) : Flt.prefixes (f.take (n + 1)) = Flt.ins (Flt.prefixes (f.take n)) c.pre := by
  obtain ⟨hl, he⟩ := List.getElem?_eq_some_iff.1 hc
  rw [List.take_succ_eq_append_getElem hl, he]
  unfold Flt.prefixes
  rw [List.foldl_append]
  rfl

section
variable {α : Type} {t k : Nat} {f : α → List Value} {w wr w2 : World} {l m : List α} {v v' : Value} {o : Obj}
set_option maxRecDepth 100000 in
theorem RowsOwn.front (hg : (wr.alloc o).grownBy w2 (Value.slice (some ⟨wr.heap.size, 0, none⟩) 0 0).ownBlock) (hown : w2.ownsRow wr.heap.size t k v (0 + l.length) ([] ++ l.flatMap f)) : RowsOwn t k f wr l v w2 := by
  refine ⟨by simpa using hown, ((Below.refl wr.heap.size wr).alloc (Nat.le_refl _) o).grown hg (by simp) (fun k hk => ?_)⟩
  have : wr.heap.size = k := by simpa [Value.ownBlock] using hk
  omega
set_option maxRecDepth 100000 in
theorem RowsOwn.rest (h : RowsOwn t k f w l v wr) (hg : wr.grownBy w2 v.ownBlock) (hown : w2.ownsRow w.heap.size t k v' (l.length + m.length) (l.flatMap f ++ m.flatMap f)) : RowsOwn t k f w (l ++ m) v' w2 :=
  ⟨by rw [List.length_append, List.flatMap_append]; exact hown, h.2.grown hg h.2.size (fun k hk => (h.1.lt k hk).1)⟩
end

set_option maxRecDepth 100000 in
set_option maxHeartbeats 6400000 in
theorem ref_prefixes {w : World} {F : Nat → Prop} {v : Value} {f : List Flt.Cl} (h : Cls w F v f) (hl : f.length ≤ 1000000) :
    Calls Tryz.prog 29 #[v] w fun e w' => ∃ v', e = .returned v' ∧ RowsOwn 9 1 txV w (Flt.prefixes f) v' w' := by
  obtain ⟨A, cap, rfl, hcap⟩ := h.parts
  obtain ⟨i0, hi0, hz0, hz1, hz2⟩ := info_parts strInfo
  have H := Lib.hid h
  have hl' : (f.length : Int) ≤ 1000000 := by omega
  clear h
  go_enter Tryz.func29, Tryz.ntmps29
  go_wp2_with fail
  go_loopw [3, 4, 5, 6, 7] (fun out i _ _ _ wr => ∃ n : Nat, n ≤ f.length ∧ i = .int .i64 (n : Int) ∧ RowsOwn 9 1 txV w (Flt.prefixes (f.take n)) out wr) (fun _ i _ _ _ _ => f.length - (intOf i).toNat)
  case atStart => exact ⟨0, Nat.zero_le _, rfl, RowsOwn.start _ _ _ w⟩
  case round =>
    obtain ⟨n, hn, rfl, hown⟩ := hrel
    by_cases hlt : n < f.length
    · obtain ⟨b, o, cap', e, -, -, hb⟩ := H.out.block (by omega)
      injection e with e1 e2 e3
      subst e1 e3
      clear e2
      obtain ⟨x, hx⟩ : ∃ x, f[n]? = some x := ⟨_, List.getElem?_eq_getElem hlt⟩
      have hn0 : (0 : Int) ≤ (n : Int) := by omega
      have hn1 : (n : Int) < (f.length : Int) := by omega
      have CA : Hid (∀ W, Below w.heap.size w W → W.cell? ⟨b, o + n * 3, none⟩ = some (.string (mk x.pre)) ∧ W.cell? ⟨b, o + n * 3 + 1, none⟩ = some (.int .i64 x.lo) ∧ W.cell? ⟨b, o + n * 3 + 2, none⟩ = some (.int .i64 x.hi)) := Lib.hid (fun W hW => Cls.at (H.out.below hW) hx)
      obtain ⟨c0, -, -⟩ := CA.out wr hown.2
      have hst := Lib.hid (Flt.prefixes_take hx)
      have hlen : (Flt.prefixes (f.take n)).length ≤ n := Nat.le_trans (Flt.prefixes_len _) (Flt.len_take f)
      obtain ⟨p, x1, x2⟩ := x
      simp only at c0
      have hst : Hid (Flt.prefixes (f.take (n + 1)) = Flt.ins (Flt.prefixes (f.take n)) p) := hst
      clear CA hx
      generalize Flt.prefixes (f.take n) = D at *
      have Hn : Hid (n ≤ f.length) := Lib.hid hn
      have hDl : (D.length : Int) ≤ 1000000 := by omega
      have Hdl := Lib.hid hlen
      have Hmd := Lib.hid (fun W => tx_made W 9 p)
      have hbel1 := hown.2
      have Hbel := Lib.hid hbel1
      have h0own : (wr.alloc (.cells #[] 9)).ownsRow wr.heap.size 9 1 (.slice (some ⟨wr.heap.size, 0, none⟩) 0 0) 0 [] := World.ownsRow_made wr #[] 0 (Nat.le_refl _) (by decide) rfl
      rcases hown.1.2 with ⟨rfl, h0⟩ | ⟨g, cap2, cur, rfl, hg0, hgb, hgc, -, -, -⟩
      · have hD0 : D = [] := List.eq_nil_of_length_eq_zero h0
        subst hD0
        have hfin : Hid (Flt.prefixes (f.take (n + 1)) = [] ++ [p] ++ []) := Lib.hid (by rw [hst.out]; rfl)
        have Hfront : Txs (wr.alloc (.cells #[] 9)) (fun _ => False) (.slice none 0 0) [] := Rws.none _ _ _
        have Htl : Hid (([] : List Flt.Tx).length = 0) := Lib.hid rfl
        have Hbl : Hid (([] : List Flt.Tx).length = 0) := Lib.hid rfl
        clear hown h0 hst hbel1
        generalize hps : mk p = ps at *
        have Hps := Lib.hid hps
        clear hps
        go_wp2_with fail
        refine wp_loop_rounds 1 ?_
        rw [rounds_succ]
        go_wp2_with (first
          | (at_builtin; refine wp_joins (f := txV) (k := 1) rfl _ _ 43 rfl wr.heap.size 9 i0 (.string ⟨#[]⟩) 16 Tryz.underlying43 hi0 hz0 hz1 hz2 rfl (by decide) rfl rfl F3o (Rws.none (k := 1) (f := txV) _ (fun _ => False) 0) (fun _ _ => rfl) (fun x _ => tx_one x) ?b1 ?b2 ?b3 ?_; (case b1 => (have := Htl.out; have := Hbl.out; simp only [List.length_append, List.length_cons, List.length_nil]; unfold maxLen; omega)); (case b2 => (have := Htl.out; have := Hbl.out; simp only [List.length_append, List.length_cons, List.length_nil]; omega)); (case b3 => omega); intro v4 w4 own4 hg4 _)
          | (at_builtin; refine wp_joins (f := txV) (k := 1) rfl _ _ 43 rfl wr.heap.size 9 i0 (.string ⟨#[]⟩) 16 Tryz.underlying43 hi0 hz0 hz1 hz2 rfl (by decide) rfl rfl (F2o.alloc _) (Hmd.out _) (fun _ _ => rfl) (fun x _ => tx_one x) ?c1 ?c2 ?c3 ?_; (case c1 => (have := Htl.out; simp only [List.length_cons, List.length_nil]; unfold maxLen; omega)); (case c2 => (have := Htl.out; simp only [List.length_cons, List.length_nil]; omega)); (case c3 => (first | omega | (simp; omega))); intro v3 w3 own3 hg3 _; have F3 := F2.more (x := p) (v' := v3) (by simpa [txV, Hps.out] using own3) hg3; have hs3 := F3.2.size; have F3o := F3.1)
          | (at_builtin; refine wp_joins (f := txV) (k := 1) rfl _ _ 43 rfl wr.heap.size 9 i0 (.string ⟨#[]⟩) 16 Tryz.underlying43 hi0 hz0 hz1 hz2 rfl (by decide) rfl rfl h0own Hfront (fun _ _ => rfl) (fun x _ => tx_one x) ?a1 ?a2 ?a3 ?_; (case a1 => (have := Htl.out; unfold maxLen; first | omega | (simp <;> omega))); (case a2 => (have := Htl.out; first | omega | (simp <;> omega))); (case a3 => simp); intro v2 w2 own2 hg2 _; have F2 := RowsOwn.front hg2 own2; have hs2 := F2.2.size; have F2o := F2.1))
        have F4 := F3.rest hg4 own4
        exact ⟨⟨n + 1, by omega, by go_num, by rw [hfin.out]; exact F4.since Hbel.out⟩, by show f.length - ((n : Int) + 1).toNat < f.length - (n : Int).toNat; omega⟩
      · have Hown := Lib.hid hown
        have hgl : g < wr.heap.size := lt_of_block hgb
        clear hown hgb hbel1
        obtain ⟨W, rfl⟩ : ∃ W : World, W = wr := ⟨_, rfl⟩
        go_wp2_with fail
        go_loopw [6] (fun i w7 => ∃ k : Nat, k ≤ D.length ∧ i = .int .i64 (k : Int) ∧ (∀ j x, j < k → D[j]? = some x → x < p) ∧ w7 = W) (fun i _ => D.length - (intOf i).toNat)
        case atStart => exact ⟨0, Nat.zero_le _, rfl, (fun j x hj => absurd hj (by omega)), rfl⟩
        case round =>
          obtain ⟨k, hk, rfl, hlow, rfl⟩ := hrel
          have hk0 : (0 : Int) ≤ (k : Int) := by omega
          have hkD : (k : Int) ≤ (D.length : Int) := by omega
          have Hlow := Lib.hid hlow
          clear hlow
          by_cases hgo : ∃ x, D[k]? = some x ∧ x < p
          · obtain ⟨x, hx, hxp⟩ := hgo
            have hlt2 : k < D.length := by obtain ⟨h, _⟩ := List.getElem?_eq_some_iff.1 hx; exact h
            have hk1 : (k : Int) < (D.length : Int) := by omega
            have d0 := Txs.at (Hown.out.rows (fun _ _ => rfl)) hx
            rw [Nat.zero_add] at d0
            have hb1 : Op.bytesLess (mk x).toList (mk p).toList = true := by rw [Proofs.bytesLess_eq, Lib.toList_data, Lib.toList_data]; exact decide_eq_true hxp
            have Hx := Lib.hid hx
            have Hk := Lib.hid hxp
            clear hx hxp Hmd
            generalize mk x = xs at *
            generalize mk p = ps at *
            go_wp2_with fail
            refine ⟨⟨k + 1, by omega, by go_num, fun j y hj hy => ?_, by first | rfl | trivial⟩, ?_⟩
            · by_cases e : j = k
              · rw [e, Hx.out] at hy
                injection hy with hy
                rw [← hy]; exact Hk.out
              · exact Hlow.out j y (by omega) hy
            · show D.length - ((k : Int) + 1).toNat < D.length - (k : Int).toNat
              omega
          · have hins := Lib.hid (Flt.ins_at (n := k) Hlow.out (fun y hy hk => hgo ⟨y, hy, hk⟩) hk)
            by_cases hsame : D[k]? = some p
            · have hlt2 : k < D.length := by obtain ⟨h, _⟩ := List.getElem?_eq_some_iff.1 hsame; exact h
              have hk1 : (k : Int) < (D.length : Int) := by omega
              have hkne : ¬ (k : Int) = (D.length : Int) := by omega
              have d0 := Txs.at (Hown.out.rows (fun _ _ => rfl)) hsame
              rw [Nat.zero_add] at d0
              have hb1 : Op.bytesLess (mk p).toList (mk p).toList = false := by rw [Proofs.bytesLess_eq]; exact decide_eq_false (List.lt_irrefl _)
              have es : ((mk p).toList == (mk p).toList) = true := beq_self_eq_true _
              have hfin : Hid (Flt.prefixes (f.take (n + 1)) = D) := Lib.hid (by rw [hst.out, hins.out, if_pos hsame])
              clear hins hgo hsame hst Hmd
              generalize mk p = ps at *
              go_wp2_with fail
              exact ⟨⟨n + 1, by have := Hn.out; omega, by go_num, by rw [hfin.out]; exact Hown.out⟩, by show f.length - ((n : Int) + 1).toNat < f.length - (n : Int).toNat; omega⟩
            · have hcase : (∃ x1, wr.cell? ⟨g, k, none⟩ = some (.string x1) ∧ Op.bytesLess x1.toList (mk p).toList = false ∧ (x1.toList == (mk p).toList) = false ∧ (k : Int) < (D.length : Int) ∧ ¬ (k : Int) = (D.length : Int)) ∨ k = D.length := by
                by_cases hlt2 : k < D.length
                · obtain ⟨x, hx⟩ : ∃ x, D[k]? = some x := ⟨_, List.getElem?_eq_getElem hlt2⟩
                  have d0 := Txs.at (Hown.out.rows (fun _ _ => rfl)) hx
                  rw [Nat.zero_add] at d0
                  exact Or.inl ⟨_, d0, by rw [Proofs.bytesLess_eq, Lib.toList_data, Lib.toList_data]; exact decide_eq_false (fun h => hgo ⟨x, hx, h⟩), by rw [str_same]; exact decide_eq_false (fun e => hsame (by rw [hx, e])), by omega, by omega⟩
                · exact Or.inr (by omega)
              have hfin : Hid (Flt.prefixes (f.take (n + 1)) = D.take k ++ [p] ++ D.drop k) := Lib.hid (by rw [hst.out, hins.out, if_neg hsame])
              have Hfront : Txs (wr.alloc (.cells #[] 9)) (NewIn w (wr.alloc (.cells #[] 9))) (.slice (some ⟨g, 0, none⟩) k cap2) (D.take k) := by
                have hb' : Below wr.heap.size wr (wr.alloc (.cells #[] 9)) := (Below.refl _ _).alloc (Nat.le_refl _) _
                have := ((Hown.out.rows (fun _ _ => rfl)).below hb').take rfl k hk cap2 (by omega)
                exact this.mono (fun i hi => ⟨hi.1, Nat.lt_of_lt_of_le hi.2 hb'.size⟩)
              have Htl : Hid ((D.take k).length = k) := Lib.hid (by rw [List.length_take]; omega)
              have Hback : Hid (∀ w', Below wr.heap.size wr w' → Txs w' (NewIn w w') (.slice (some ⟨g, k, none⟩) (D.length - k) (cap2 - k)) (D.drop k)) := Lib.hid (fun w' hw' => by
                have := ((Hown.out.rows (fun _ _ => rfl)).below hw').drop rfl k hk (cap2 - k) (by omega)
                rw [Nat.zero_add, Nat.mul_one] at this
                exact this.mono (fun i hi => ⟨hi.1, Nat.lt_of_lt_of_le hi.2 hw'.size⟩))
              have Hzero : Hid (k = D.length → ∀ A c w', Txs w' (NewIn w w') (.slice A 0 c) (D.drop k)) := Lib.hid (fun hh A c w' => by
                rw [List.drop_of_length_le (by omega)]
                exact Rws.empty _ _ _ _)
              have Hbl : Hid ((D.drop k).length = D.length - k) := Lib.hid List.length_drop
              clear hins hgo hsame hst
              generalize hps : mk p = ps at *
              have Hps := Lib.hid hps
              clear hps
              rcases hcase with ⟨x1, d0, hb1, es, hk1, hkne⟩ | rfl
              all_goals
                go_wp2_with (first
                  | (at_builtin; refine wp_joins (f := txV) (k := 1) rfl _ _ 43 rfl wr.heap.size 9 i0 (.string ⟨#[]⟩) 16 Tryz.underlying43 hi0 hz0 hz1 hz2 rfl (by decide) rfl rfl F3o (Hback.out _ F3.2) (fun _ _ => rfl) (fun x _ => tx_one x) ?b1 ?b2 ?b3 ?_; (case b1 => (have := Htl.out; have := Hbl.out; simp only [List.length_append, List.length_cons, List.length_nil]; unfold maxLen; omega)); (case b2 => (have := Htl.out; have := Hbl.out; simp only [List.length_append, List.length_cons, List.length_nil]; omega)); (case b3 => omega); intro v4 w4 own4 hg4 _)
                  | (at_builtin; refine wp_joins (f := txV) (k := 1) rfl _ _ 43 rfl wr.heap.size 9 i0 (.string ⟨#[]⟩) 16 Tryz.underlying43 hi0 hz0 hz1 hz2 rfl (by decide) rfl rfl F3o (Hzero.out rfl _ _ _) (fun _ _ => rfl) (fun x _ => tx_one x) ?b1 ?b2 ?b3 ?_; (case b1 => (have := Htl.out; have := Hbl.out; simp only [List.length_append, List.length_cons, List.length_nil]; unfold maxLen; omega)); (case b2 => (have := Htl.out; have := Hbl.out; simp only [List.length_append, List.length_cons, List.length_nil]; omega)); (case b3 => omega); intro v4 w4 own4 hg4 _)
                  | (at_builtin; refine wp_joins (f := txV) (k := 1) rfl _ _ 43 rfl wr.heap.size 9 i0 (.string ⟨#[]⟩) 16 Tryz.underlying43 hi0 hz0 hz1 hz2 rfl (by decide) rfl rfl (F2o.alloc _) (Hmd.out _) (fun _ _ => rfl) (fun x _ => tx_one x) ?c1 ?c2 ?c3 ?_; (case c1 => (have := Htl.out; simp only [List.length_cons, List.length_nil]; unfold maxLen; omega)); (case c2 => (have := Htl.out; simp only [List.length_cons, List.length_nil]; omega)); (case c3 => (first | omega | (simp; omega))); intro v3 w3 own3 hg3 _; have F3 := F2.more (x := p) (v' := v3) (by simpa [txV, Hps.out] using own3) hg3; have hs3 := F3.2.size; have F3o := F3.1)
                  | (at_builtin; refine wp_joins (f := txV) (k := 1) rfl _ _ 43 rfl wr.heap.size 9 i0 (.string ⟨#[]⟩) 16 Tryz.underlying43 hi0 hz0 hz1 hz2 rfl (by decide) rfl rfl h0own Hfront (fun _ _ => rfl) (fun x _ => tx_one x) ?a1 ?a2 ?a3 ?_; (case a1 => (have := Htl.out; unfold maxLen; first | omega | (simp <;> omega))); (case a2 => (have := Htl.out; first | omega | (simp <;> omega))); (case a3 => simp); intro v2 w2 own2 hg2 _; have F2 := RowsOwn.front hg2 own2; have hs2 := F2.2.size; have F2o := F2.1))
                all_goals
                  have F4 := F3.rest hg4 own4
                  exact ⟨⟨n + 1, by have := Hn.out; omega, by go_num, by rw [hfin.out]; exact F4.since Hbel.out⟩, by show f.length - ((n : Int) + 1).toNat < f.length - (n : Int).toNat; omega⟩
    · obtain rfl : n = f.length := by omega
      rw [List.take_length] at hown
      have Hown := Lib.hid hown
      clear hown
      go_wp2_with fail
      go_ret
      exact ⟨_, rfl, Hown.out⟩
end Go.Proofs.YtabnfaonlkipbaaGreatDoor
/- The document's own answers of layer 11: a text's parts between any byte (Split). -/
namespace Go.Proofs.YtabnfaonlkipbaaGreatDoor
open Go.RowKit

namespace Flg
/-- Behind i bytes: the parts that are done, the place where the one at hand begins. -/
def CutTo (c : UInt8) (s : Flt.Tx) (D : List Flt.Tx) (p i : Nat) : Prop := p ≤ i ∧ i ≤ s.length ∧ cut c s = D ++ splitC c ((s.take i).drop p) (s.drop i) ∧ D.length ≤ i
set_option maxRecDepth 100000 in
theorem cutTo_start (c : UInt8) (s : Flt.Tx) : CutTo c s [] 0 0 := ⟨Nat.le_refl _, Nat.zero_le _, by simp [cut], Nat.le_refl _⟩
set_option maxRecDepth 100000 in
theorem cutTo_end {c : UInt8} {s : Flt.Tx} {D : List Flt.Tx} {p : Nat} (h : CutTo c s D p s.length) : cut c s = D ++ [s.drop p] := by
  have := h.2.2.1
  rw [List.take_length, List.drop_length] at this
  exact this
set_option maxRecDepth 100000 in
theorem cutTo_next {b : UInt8} {s : Flt.Tx} {D : List Flt.Tx} {p i : Nat} {c : UInt8} (h : CutTo b s D p i) (hc : s[i]? = some c) : if c.toNat = b.toNat then CutTo b s (D ++ [(s.take i).drop p]) (i + 1) (i + 1) else CutTo b s D p (i + 1) := by
  obtain ⟨h1, h2, h3, h4⟩ := h
  obtain ⟨hl, he⟩ := List.getElem?_eq_some_iff.1 hc
  have hd : s.drop i = c :: s.drop (i + 1) := by rw [List.drop_eq_getElem_cons hl, he]
  rw [hd] at h3
  unfold splitC at h3
  split
  · rename_i h7
    rw [if_pos (UInt8.toNat_inj.1 h7)] at h3
    refine ⟨Nat.le_refl _, hl, ?_, by rw [List.length_append]; simp; omega⟩
    rw [h3, List.append_assoc]
    congr 2
    have : (s.take (i + 1)).drop (i + 1) = [] := List.drop_of_length_le (by rw [List.length_take]; omega)
    rw [this]
    rfl
  · rename_i h7
    rw [if_neg (fun e => h7 (by rw [e]))] at h3
    refine ⟨by omega, hl, ?_, by omega⟩
    rw [h3]
    congr 2
    rw [List.take_succ_eq_append_getElem hl, he, List.drop_append_of_le_length (by rw [List.length_take]; omega)]
end Flg

set_option maxRecDepth 100000 in
set_option maxHeartbeats 1600000 in
theorem ref_cut (b : UInt8) (s : List UInt8) (w : World) (hs : s.length ≤ 100000) :
    Calls Tryz.prog 26 #[.string (mk s), .int .u8 (b.toNat : Int)] w fun e w' => ∃ v, e = .returned v ∧ Cells w' (NewIn w w') v (texts (Flg.cut b s)) ∧ Below w.heap.size w w' := by
  obtain ⟨i0, hi, hz0, hz1, hz2⟩ := info_parts strInfo
  have hbn : b.toNat < 256 := b.toNat_lt
  have ls : (mk s).size = s.length := mk_len s
  have hS : ((mk s).size : Int) ≤ 100000 := by rw [ls]; omega
  have Ls := Lib.hid ls
  clear ls
  generalize hxs : mk s = xs at *
  have Hxs := Lib.hid hxs
  go_enter Tryz.func26, Tryz.ntmps26
  go_wp2_with fail
  go_loopw [5, 6, 7] (fun o p i wr => ∃ (D : List (List UInt8)) (at_ k : Nat), p = .int .i64 (at_ : Int) ∧ i = .int .i64 (k : Int) ∧ Flg.CutTo b s D at_ k ∧ TextsOwn w D o wr) (fun _ _ i _ => s.length - (intOf i).toNat)
  case atStart => exact ⟨[], 0, 0, rfl, rfl, Flg.cutTo_start b s, texts_start w⟩
  case round =>
    obtain ⟨D, p, k, rfl, rfl, hcut, hown⟩ := hrel
    have hk0 : (0 : Int) ≤ (k : Int) := by omega
    have hp0 : (0 : Int) ≤ (p : Int) := by omega
    have hpk : (p : Int) ≤ (k : Int) := by have := hcut.1; omega
    have hks : (k : Int) ≤ (xs.size : Int) := by have := hcut.2.1; have := Ls.out; omega
    have hDl : Hid (D.length ≤ 100000) := Lib.hid (by have := hcut.2.2.2; have := hcut.2.1; omega)
    by_cases hlt : k < s.length
    · have hk1 : (k : Int) < (xs.size : Int) := by have := Ls.out; omega
      obtain ⟨c, hc, ic⟩ := idx xs k (by have := Ls.out; omega)
      have hsc : s[k]? = some c := by rw [← hc, ← Hxs.out, mk_data]
      have hnext := Flg.cutTo_next hcut hsc
      by_cases h7 : c.toNat = b.toNat
      · rw [if_pos h7] at hnext
        have hb1 : ((c.toNat : Int) == (b.toNat : Int)) = true := by rw [h7]; exact beq_self_eq_true _
        have hext : xs.extract p k = mk ((s.take k).drop p) := by
          rw [← Hxs.out]
          exact bytes_ext (by rw [Lib.extract_data, mk_data, mk_data, List.take_drop, Nat.add_sub_cancel' (by omega)])
        have Hnext := Lib.hid hnext
        have Hown := Lib.hid hown
        have hz := hown.2.size
        have hown1 := hown.1
        clear hc hsc hnext hcut hown h7
        generalize c.toNat = cn at *
        generalize hx1 : mk ((s.take k).drop p) = x1 at *
        have hc1 : ∀ {w1 : World} j u, [Value.string x1][j]? = some u → (w1.alloc (.cells #[.string x1] 9)).cell? ((⟨w1.heap.size, 0, none⟩ : Addr).add j) = some u := by
          intro w1 j u hj
          match j, hj with
          | 0, hj => simp at hj; subst hj; simp [Addr.add]
        go_wp2_with (at_builtin; refine wpList_append_own _ rfl _ _ 43 rfl w.heap.size 9 i0 (.string ⟨#[]⟩) 1 16 Tryz.underlying43 hi hz0 hz1 hz2 rfl (by decide) _ _ _ rfl (hown1.alloc _) ⟨wr.heap.size, 0, none⟩ 1 1 [.string x1] rfl rfl hc1 ?c2 ?c3 ?c4 ?c5 ?_)
        case c2 => first | rfl | (intro u hu; simp at hu; subst hu; rfl)
        case c3 => have := hDl.out; unfold maxLen; omega
        case c4 => have := hDl.out; omega
        case c5 => first | omega | (simp; omega)
        intro v' w2 hown' hgrow' _
        have hnew := texts_more Hown.out (x := (s.take k).drop p) (v' := v') (by rw [hx1]; simpa using hown') hgrow'
        clear hown' hgrow' hown1
        go_wp2
        go_roundw
        case rel => exact ⟨_, k + 1, k + 1, by go_num, by go_num, Hnext.out, hnew⟩
        case measure => simp [intOf]; omega
      · rw [if_neg h7] at hnext
        have hb1 : ((c.toNat : Int) == (b.toNat : Int)) = false := by rw [beq_eq_false_iff_ne]; omega
        have Hnext := Lib.hid hnext
        have Hown := Lib.hid hown
        clear hc hsc hnext hcut hown h7
        generalize c.toNat = cn at *
        go_wp2_with fail
        refine ⟨⟨D, p, k + 1, rfl, rfl, Hnext.out, Hown.out⟩, ?_⟩
        show s.length - ((k : Int) + 1).toNat < s.length - (k : Int).toNat
        omega
    · obtain rfl : k = s.length := by have := hcut.2.1; omega
      have hfin := Lib.hid (Flg.cutTo_end hcut)
      have hk1 : ¬ (s.length : Int) < (xs.size : Int) := by have := Ls.out; omega
      have hext : xs.extract p xs.size = mk (s.drop p) := by
        rw [← Hxs.out]
        exact bytes_ext (by rw [Lib.extract_data, mk_data, mk_len, mk_data, ← List.length_drop, List.take_length])
      have hps : (p : Int) ≤ (xs.size : Int) := by omega
      have Hown := Lib.hid hown
      have hz := hown.2.size
      have hown1 := hown.1
      clear hcut hown
      generalize hx1 : mk (s.drop p) = x1 at *
      have hc1 : ∀ {w1 : World} j u, [Value.string x1][j]? = some u → (w1.alloc (.cells #[.string x1] 9)).cell? ((⟨w1.heap.size, 0, none⟩ : Addr).add j) = some u := by
        intro w1 j u hj
        match j, hj with
        | 0, hj => simp at hj; subst hj; simp [Addr.add]
      go_wp2_with (at_builtin; refine wpList_append_own _ rfl _ _ 43 rfl w.heap.size 9 i0 (.string ⟨#[]⟩) 1 16 Tryz.underlying43 hi hz0 hz1 hz2 rfl (by decide) _ _ _ rfl (hown1.alloc _) ⟨wr.heap.size, 0, none⟩ 1 1 [.string x1] rfl rfl hc1 ?c2 ?c3 ?c4 ?c5 ?_)
      case c2 => first | rfl | (intro u hu; simp at hu; subst hu; rfl)
      case c3 => have := hDl.out; unfold maxLen; omega
      case c4 => have := hDl.out; omega
      case c5 => first | omega | (simp; omega)
      intro v' w2 hown' hgrow' _
      have hnew := texts_more Hown.out (x := s.drop p) (v' := v') (by rw [hx1]; simpa using hown') hgrow'
      clear hown' hgrow' hown1
      go_wp2
      go_ret
      exact ⟨v', rfl, by rw [hfin.out]; exact hnew.cells, hnew.2⟩

set_option maxRecDepth 100000 in
theorem Cells.texts {w : World} {F : Nat → Prop} {v : Value} {l : List (List UInt8)} (h : Cells w F v (texts l)) : Txs w F v l := by
  obtain ⟨A, c, rfl, hc, hat⟩ := h
  rw [texts_len] at hc hat ⊢
  refine ⟨A, c, rfl, hc, fun hp => ?_⟩
  obtain ⟨b, o, rfl, h1, h2, h3⟩ := hat hp
  refine ⟨b, o, rfl, h1, h2, fun i x hx j u hu => ?_⟩
  match j, hu with
  | 0, hu =>
    have hu : Value.string (mk x) = u := by simpa [txV] using hu
    subst hu
    rw [Nat.mul_one]
    exact h3 i _ (texts_at hx)
set_option maxRecDepth 100000 in
theorem ref_parts (b : UInt8) (s : List UInt8) (w : World) (hs : s.length ≤ 100000) :
    Calls Tryz.prog 26 #[.string (mk s), .int .u8 (b.toNat : Int)] w fun e w' => ∃ v, e = .returned v ∧ Txs w' (NewIn w w') v (Flg.cut b s) ∧ Below w.heap.size w w' :=
  (ref_cut b s w hs).mono (fun e w' ⟨v, h1, h2, h3⟩ => ⟨v, h1, h2.texts, h3⟩)
end Go.Proofs.YtabnfaonlkipbaaGreatDoor
