import Derived.Test.YtkcgmnhjofoeiaaGreatCom10
import Derived.Test.YtkcgmnhjofoeiaaGreatCom14
import Derived.Shelf.SlicesQ.IndexFunc
set_option maxRecDepth 100000
set_option linter.all false
set_option maxHeartbeats 12800000
namespace Go.Proofs.YtkcgmnhjofoeiaaGreat
open Go.RowKit Go.Shelf Go.Lib
theorem idxFrom_spec {α : Type} (q : α → Bool) (d : α) : ∀ (l : List α) (i : Nat), (Lib.idxByFrom (fun _ y => q y) d l i = -1 ∧ ∀ x ∈ l, q x = false) ∨ ∃ k x, l[k]? = some x ∧ Lib.idxByFrom (fun _ y => q y) d l i = ((i + k : Nat) : Int) ∧ q x = true ∧ ∀ y ∈ l.take k, q y = false
 | [], i => Or.inl ⟨rfl, fun _ h => (by cases h)⟩
 | x :: l, i => by
  cases hx : q x with
  | true => exact Or.inr ⟨0, x, rfl, by simp [Lib.idxByFrom, hx], hx, fun _ h => (by cases h)⟩
  | false =>
   have e : Lib.idxByFrom (fun _ y => q y) d (x :: l) i = Lib.idxByFrom (fun _ y => q y) d l (i + 1) := by simp [Lib.idxByFrom, hx]
   rw [e]
   rcases idxFrom_spec q d l (i + 1) with ⟨h1, h2⟩ | ⟨k, z, hz, h1, h2, h3⟩
   ·refine Or.inl ⟨h1, fun y hy => ?_⟩
    rcases List.mem_cons.1 hy with rfl | hy
    ·exact hx
    ·exact h2 y hy
   ·refine Or.inr ⟨k + 1, z, hz, by rw [h1]; congr 1; omega, h2, fun y hy => ?_⟩
    rw [List.take_succ_cons] at hy
    rcases List.mem_cons.1 hy with rfl | hy
    ·exact hx
    ·exact h3 y hy
theorem idx_spec {α : Type} (q : α → Bool) (l : List α) (d : α) : (Lib.idxBy (fun _ y => q y) l d = -1 ∧ ∀ x ∈ l, q x = false) ∨ ∃ k x, l[k]? = some x ∧ Lib.idxBy (fun _ y => q y) l d = (k : Nat) ∧ q x = true ∧ ∀ y ∈ l.take k, q y = false := by
 have := idxFrom_spec q d l 0
 simp only [Nat.zero_add] at this
 exact this
theorem frZ_one : ∀ u ∈ (frA frZ).cells.toList, u.oneCell' = true := by
 intro u hu
 have : u ∈ rfV frZ := by have h : u ∈ (rfV frZ).toArray.toList := hu; simpa using h
 rcases List.mem_cons.1 this with rfl | h
 ·rfl
 ·rcases List.mem_append.1 h with h | h
  ·exact vec_one _ u h
  ·rw [List.mem_singleton.1 h]; rfl
theorem itZ_one : ∀ u ∈ (itA itZ).cells.toList, u.oneCell' = true := by
 intro u hu
 have : u ∈ itV itZ := by have h : u ∈ (itV itZ).toArray.toList := hu; simpa using h
 exact it_one _ u this
theorem fr_lies {w W : World} {l : List RFr} {g n cap j : Nat} {x : RFr} (h : RowsOwn 31 67 rfV w l (.slice (some ⟨g, 0, none⟩) n cap) W) (hk : ∀ x ∈ l, (rfV x).length = 67) (hx : l[j]? = some x) : Lies 31 W g (j * 67) (rfV x) := by
 have := range_rws (h.rows hk) hx
 rw [Nat.zero_add] at this
 refine ⟨this, ⟨_, Tryz.underlying31, rfl⟩, ?_⟩
 obtain ⟨i0, hi0, -, hz1, -⟩ := ver_parts frInfo
 rw [hk x (List.mem_of_getElem? hx), hi0, Option.map_some, hz1]
theorem fr_made (w : World) {x : RFr} (hx : (rfV x).length = 67) : Lies 31 (w.alloc (.cells (rfV x).toArray 31)) w.heap.size 0 (rfV x) := by
 refine ⟨range_row (Row.made w 31 _), ⟨_, Tryz.underlying31, rfl⟩, ?_⟩
 obtain ⟨i0, hi0, -, hz1, -⟩ := ver_parts frInfo
 rw [hx, hi0, Option.map_some, hz1]
theorem fr_there {w W : World} {l : List RFr} {g n cap i m : Nat} {y : RFr} (h : RowsOwn 31 67 rfV w l (.slice (some ⟨g, 0, none⟩) n cap) W) (hn : l.length = n) (hk : ∀ x ∈ l, (rfV x).length = 67) (hy : l[i]? = some y) (hm : m ≤ 67) : W.there g (i * 67) m := by
 subst hn
 intro k hkm
 have hlt : k < (rfV y).length := by rw [hk y (List.mem_of_getElem? hy)]; omega
 have := range_rws (h.rows hk) hy k _ (List.getElem?_eq_getElem hlt)
 rw [Nat.zero_add] at this
 exact ⟨by rw [this]; rfl, h.1.frozenAt _⟩
theorem it_lies {w W : World} {l : List Know.It} {g n cap j : Nat} {x : Know.It} (h : RowsOwn 45 67 itV w l (.slice (some ⟨g, 0, none⟩) n cap) W) (hk : ∀ x ∈ l, (itV x).length = 67) (hx : l[j]? = some x) : Lies 45 W g (j * 67) (itV x) := by
 have := range_rws (h.rows hk) hx
 rw [Nat.zero_add] at this
 refine ⟨this, ⟨_, Tryz.underlying45, rfl⟩, ?_⟩
 obtain ⟨i0, hi0, -, hz1, -⟩ := ver_parts itInfo
 rw [hk x (List.mem_of_getElem? hx), hi0, Option.map_some, hz1]
theorem it_made (w : World) {x : Know.It} (hx : (itV x).length = 67) : Lies 45 (w.alloc (.cells (itV x).toArray 45)) w.heap.size 0 (itV x) := by
 refine ⟨range_row (Row.made w 45 _), ⟨_, Tryz.underlying45, rfl⟩, ?_⟩
 obtain ⟨i0, hi0, -, hz1, -⟩ := ver_parts itInfo
 rw [hx, hi0, Option.map_some, hz1]
theorem it_there {w W : World} {l : List Know.It} {g n cap i m : Nat} {y : Know.It} (h : RowsOwn 45 67 itV w l (.slice (some ⟨g, 0, none⟩) n cap) W) (hn : l.length = n) (hk : ∀ x ∈ l, (itV x).length = 67) (hy : l[i]? = some y) (hm : m ≤ 67) : W.there g (i * 67) m := by
 subst hn
 intro k hkm
 have hlt : k < (itV y).length := by rw [hk y (List.mem_of_getElem? hy)]; omega
 have := range_rws (h.rows hk) hy k _ (List.getElem?_eq_getElem hlt)
 rw [Nat.zero_add] at this
 exact ⟨by rw [this]; rfl, h.1.frozenAt _⟩
theorem fr_cleared {w W : World} {l : List RFr} {g cap m n : Nat} (h : RowsOwn 31 67 rfV w l (.slice (some ⟨g, 0, none⟩) n cap) W) (hk : ∀ x ∈ l, (rfV x).length = 67) (hn : l.length = n) (hm : m < n) (c : Nat) :
  ∃ w', (∀ ty, (Builtin.clear_ #[22] ty #[.slice (some ⟨g, m * 67, none⟩) (n - m) c]).run Tryz.prog W = .ok (.tuple #[]) w') ∧ RowsOwn 31 67 rfV w (l.take m) (.slice (some ⟨g, 0, none⟩) m cap) w' ∧ Kept (fun i => i = g) W w' := by
 subst hn
 obtain ⟨w', r1, r2, r3⟩ := own_clear (P := Tryz.prog) h.1 hm Tryz.underlying22 frZero frZ_size frZ_one c
 refine ⟨w', r1, ⟨?_, h.2.grown r3 h.2.size (fun k hk => ?_)⟩, Kept.ofGrown r3 (fun i hi => by injection hi with hi; exact hi.symm)⟩
 ·have e : (l.flatMap rfV).take (m * 67) = (l.take m).flatMap rfV := by
   have hs : l.flatMap rfV = (l.take m).flatMap rfV ++ (l.drop m).flatMap rfV := by rw [← List.flatMap_append, List.take_append_drop]
   rw [hs, List.take_left' (by rw [rows_len (k := 67) (f := rfV) _ (fun x hx => hk x (List.mem_of_mem_take hx)), List.length_take]; omega)]
  rw [e] at r2
  have hl : (l.take m).length = m := by rw [List.length_take]; omega
  rw [hl]
  exact r2
 ·injection hk with hk
  rw [← hk]
  exact (h.1.lt g rfl).1
theorem fr_idx_none (A : Option Addr) (c : Nat) (fv : Value) (w : World) :
  Calls Tryz.prog 90 #[.slice A 0 c, fv] w fun e w' => e = .returned (.int .i64 (-1)) ∧ w' = w := by
 go_enter Tryz.func90, Tryz.ntmps90
 go_wp2_with fail
 refine wp_loop_rounds 1 ?_
 rw [rounds_succ]
 go_wp2_with fail
 go_ret
 exact ⟨rfl, rfl⟩
theorem fr_index {w : World} {l : List RFr} {F : Nat → Prop} {b o n cap : Nat} {pv : Value} {p : RFr → Bool} (h : Rws 67 rfV w F (.slice (some ⟨b, o, none⟩) n cap) l) (hn : l.length = n) (hk : ∀ x ∈ l, (rfV x).length = 67) (hl : l.length ≤ 100000) (h0 : 0 < l.length)
  (HP : ∀ W, Below w.heap.size w W → ∀ x ∈ l, Calls Tryz.prog 64 #[.agg (rfV x).toArray, pv] W fun e w' => e = .returned (.bool (p x)) ∧ Below W.heap.size W w') :
  Calls Tryz.prog 90 #[.slice (some ⟨b, o, none⟩) n cap, .func (.func 64) #[] #[pv]] w fun e w' => ((e = .returned (.int .i64 (-1)) ∧ ∀ x ∈ l, p x = false) ∨ ∃ k x, l[k]? = some x ∧ e = .returned (.int .i64 (k : Nat)) ∧ p x = true ∧ ∀ y ∈ l.take k, p y = false) ∧ Below w.heap.size w w' := by
 subst hn
 obtain ⟨A, cap', e0, hcap, hat⟩ := h
 obtain ⟨b', o', e1, -, hb, hcl⟩ := hat h0
 injection e0 with e0 e2 e3
 rw [e1] at e0
 injection e0 with e0
 injection e0 with e0 e4
 subst e0 e4
 have eg : ∀ args w, (callFunc 64 args).run Tryz.prog w = .ok (.enter 64 args) w := enters_of Tryz.func64 (by kernel_rfl) rfl
 have hz : ∃ z, z ∈ l := ⟨l[0], List.getElem_mem _⟩
 obtain ⟨z, hz⟩ := hz
 have hin : Inhabited {x // x ∈ l} := ⟨⟨z, hz⟩⟩
 have hal : l.attach.length = l.length := List.length_attach
 have hcon := AnyQ.slices_IndexFunc Tryz.idxFr 67 Tryz.isAgg31 Tryz.sizeOf31 (fun x : {x // x ∈ l} => rfV x.1) (fun x => hk x.1 x.2) (fun x => p x.1) 64 #[pv] eg b o l.length cap l.attach w
  (fun W x hb => (HP W hb x.1 x.2).mono fun _ _ ⟨he, hb2⟩ => ⟨he, hb.trans (hb2.mono hb.size)⟩) (by omega) (by omega) hb
  (fun j hj i u hi => hcl j l.attach[j]!.1 (by rw [getElem!_pos l.attach j hj, List.getElem_attach]; exact List.getElem?_eq_getElem (by omega)) i u hi)
 rw [List.take_of_length_le (by omega)] at hcon
 refine hcon.mono ?_
 rintro e w' ⟨rfl, hb⟩
 refine ⟨?_, hb⟩
 rcases idx_spec (fun x : {x // x ∈ l} => p x.1) l.attach default with ⟨e, h⟩ | ⟨k, x, hx, e, h1, h2⟩
 ·exact Or.inl ⟨by rw [e], fun x hx => h ⟨x, hx⟩ (List.mem_attach l _)⟩
 ·refine Or.inr ⟨k, x.1, ?_, by rw [e], h1, fun y hy => ?_⟩
  ·obtain ⟨h, e⟩ := List.getElem?_eq_some_iff.1 hx
   rw [List.getElem_attach] at e
   rw [← e]
   exact List.getElem?_eq_getElem (by omega)
  ·obtain ⟨j, hj⟩ := List.getElem?_of_mem hy
   obtain ⟨hjl, e⟩ := List.getElem?_eq_some_iff.1 hj
   rw [List.length_take] at hjl
   rw [List.getElem_take] at e
   have := h2 l.attach[j] (by
    have : (l.attach.take k)[j]? = some l.attach[j] := by
     rw [List.getElem?_take, if_pos (by omega)]; exact List.getElem?_eq_getElem (by omega)
    exact List.mem_of_getElem? this)
   rw [List.getElem_attach] at this
   rw [← e]; exact this
theorem fr_delete {w0 w : World} {l : List RFr} {v pv : Value} {p : RFr → Bool} (h : RowsOwn 31 67 rfV w0 l v w) (hk : ∀ x ∈ l, (rfV x).length = 67) (h1 : ∀ x ∈ l, ∀ u ∈ rfV x, u.oneCell' = true) (hl : l.length ≤ 100000)
  (HP : ∀ W, Kept (fun i => v.ownBlock = some i) w W → ∀ x ∈ l, Calls Tryz.prog 64 #[.agg (rfV x).toArray, pv] W fun e w' => e = .returned (.bool (p x)) ∧ Below W.heap.size W w') :
  Calls Tryz.prog 63 #[v, .func (.func 64) #[] #[pv]] w fun e w' => ∃ v', e = .returned v' ∧ v'.ownBlock = v.ownBlock ∧ RowsOwn 31 67 rfV w0 (l.filter fun x => !p x) v' w' ∧ Kept (fun i => v.ownBlock = some i) w w' := by
 rcases Nat.eq_zero_or_pos l.length with h0 | h0
 ·have hl0 : l = [] := List.eq_nil_of_length_eq_zero h0
  subst hl0
  obtain ⟨A, cap, rfl, -⟩ := (h.rows hk).parts
  have IX := Lib.hid (fr_idx_none A cap (.func (.func 64) #[] #[pv]))
  have HO := Lib.hid h
  clear h hk h1 HP
  go_enter Tryz.func63, Tryz.ntmps63
  go_wp2_with fail
  refine (IX.out _).mono ?_
  rintro e w1 ⟨rfl, rfl⟩
  go_wp2_with fail
  go_ret
  exact ⟨_, rfl, rfl, HO.out, Kept.refl _ _⟩
 ·obtain ⟨g, cap, rfl, hg0, hgl⟩ := h.1.form h0
  have hcap : l.length ≤ cap := by
   obtain ⟨A, c, e, hc⟩ := (h.rows hk).parts
   injection e with e1 e2 e3
   omega
  have HI := Lib.hid (fr_index (h.rows hk) rfl hk hl h0 (fun W hW x hx => HP W (Kept.ofBelow hW _) x hx))
  have H := Lib.hid h
  have HK := Lib.hid hk
  have H1 := Lib.hid h1
  have HPr : Hid (∀ W, Kept (fun i => i = g) w W → ∀ x ∈ l, Calls Tryz.prog 64 #[.agg (rfV x).toArray, pv] W fun e w' => e = .returned (.bool (p x)) ∧ Below W.heap.size W w') := Lib.hid (fun W hW x hx => HP W (hW.mono (fun i hi => by rw [hi]; rfl)) x hx)
  have hl' : (l.length : Int) ≤ 100000 := by omega
  have hcap' : (l.length : Int) ≤ (cap : Int) := by omega
  clear h hk h1 HP
  go_enter Tryz.func63, Tryz.ntmps63
  go_wp2_with fail
  refine (HI.out).mono ?_
  rintro e w1 ⟨hcase, hb1⟩
  have HB1 := Lib.hid hb1
  clear hb1
  rcases hcase with ⟨rfl, hnone⟩ | ⟨k, z, hz, rfl, hpz, hbef⟩
  ·have HN : Hid ((l.filter fun x => !p x) = l) := Lib.hid (List.filter_eq_self.2 (fun x hx => by rw [hnone x hx]; rfl))
   clear hnone
   go_wp2_with fail
   go_ret
   exact ⟨_, rfl, rfl, by rw [HN.out]; exact H.out.below (HB1.out.mono (Nat.le_refl _) |> fun h => by exact h), Kept.ofBelow HB1.out _⟩
  ·have hkl : k < l.length := (List.getElem?_eq_some_iff.1 hz).1
   have HF0 : Hid ((l.take (k + 1)).filter (fun x => !p x) = l.take k) := Lib.hid (by
    obtain ⟨hh, e⟩ := List.getElem?_eq_some_iff.1 hz
    rw [List.take_succ_eq_append_getElem hh, e, List.filter_append, List.filter_eq_self.2 (fun x hx => by rw [hbef x hx]; rfl)]
    simp [hpz])
   have hown1 : Hid (RowsOwn 31 67 rfV w0 l (.slice (some ⟨g, 0, none⟩) l.length cap) w1) := Lib.hid (H.out.below HB1.out)
   have hk1 : (((k : Nat) : Int) == -1) = false := by simp
   clear hbef hz hpz
   go_wp2_with fail
   go_loopw [5, 6] (fun s5 s6 W => ∃ (i j : Nat) (D : List RFr), s5 = .int .i64 (i : Int) ∧ s6 = .int .i64 (j : Int) ∧ i < j ∧ j ≤ l.length ∧ D.length = l.length ∧ Hid (D.take i = (l.take j).filter (fun x => !p x)) ∧ Hid (D.drop j = l.drop j) ∧ Hid (∀ x ∈ D, x ∈ l) ∧ Hid (RowsOwn 31 67 rfV w0 D (.slice (some ⟨g, 0, none⟩) l.length cap) W) ∧ Hid (Kept (fun i => i = g) w W)) (fun _ s6 _ => l.length - (intOf s6).toNat)
   case atStart => exact ⟨k, k + 1, l, rfl, by go_num, by omega, by omega, rfl, Lib.hid HF0.out.symm, Lib.hid rfl, Lib.hid (fun _ h => h), hown1, Lib.hid (Kept.ofBelow HB1.out _)⟩
   case round =>
    obtain ⟨i, j, D, rfl, rfl, hij, hj, hD, htk, hdr, hDl, hown, hkept⟩ := hrel
    by_cases hlt : j < l.length
    ·obtain ⟨x, hx⟩ : ∃ x, l[j]? = some x := ⟨_, List.getElem?_eq_getElem hlt⟩
     have hxD : D[j]? = some x := by
      have := congrArg (fun L => L[0]?) hdr.out
      simp only [List.getElem?_drop, Nat.add_zero] at this
      rw [this]; exact hx
     have hxl : x ∈ l := List.mem_of_getElem? hx
     have hlen : (rfV x).length = 67 := HK.out x hxl
     have LE := fr_lies hown.out (fun y hy => HK.out y (hDl.out y hy)) hxD
     have LE := Lib.hid LE
     have hone := Lib.hid (H1.out x hxl)
     have hbA : Below wr.heap.size wr (wr.alloc (.cells (rfV x).toArray 31)) := (Below.refl _ _).alloc (Nat.le_refl _) _
     have LV := Lib.hid (fr_made wr hlen)
     have KA := Lib.hid (hkept.out.alloc (.cells (rfV x).toArray 31))
     have PR := Lib.hid (HPr.out _ KA.out x hxl)
     have OA := Lib.hid (hown.out.below hbA)
     have hn0 : (0 : Int) ≤ (j : Int) := by omega
     have hn1 : (j : Int) < (l.length : Int) := by omega
     have hi0 : (0 : Int) ≤ (i : Int) := by omega
     have hi1 : (i : Int) < (l.length : Int) := by omega
     have HZ := frZero
     have HS : Hid ((Tryz.prog.info? 31).map (·.size) = some (rfV x).length ∧ (rfV frZ).toArray.size = (rfV x).length) := Lib.hid ⟨by rw [hlen]; obtain ⟨i0, hi0, -, hz1, -⟩ := ver_parts frInfo; rw [hi0, Option.map_some, hz1], by rw [hlen]; exact frZ_size⟩
     have HT : Hid ((l.take (j + 1)).filter (fun x => !p x) = (l.take j).filter (fun x => !p x) ++ if p x then [] else [x]) := Lib.hid (by
      obtain ⟨hh, e⟩ := List.getElem?_eq_some_iff.1 hx
      rw [List.take_succ_eq_append_getElem hh, e, List.filter_append]
      cases hp : p x <;> simp [hp])
     have HDr : Hid (D.drop (j + 1) = l.drop (j + 1)) := Lib.hid (by
      have := congrArg (List.drop 1) hdr.out
      rwa [List.drop_drop, List.drop_drop] at this)
     have HX := Lib.hid hx
     have HXl := Lib.hid hxl
     clear hx hxD hxl hdr hbA
     generalize hp : p x = r at *
     go_wp2_with (first | refine wpList_mload (by rfl) _ (by rfl) (by rfl) LE.out ?_ | refine wpList_nstore (by rfl) _ _ (by rfl) (by rfl) (by rfl) HS.out.1 HS.out.2 hone.out ?_ | refine wpList_mload (by rfl) _ (by rfl) (by rfl) LV.out ?_)
     refine (PR.out).mono ?_
     rintro e w3 ⟨rfl, h3⟩
     have O3 := Lib.hid (OA.out.below h3)
     have K3 : Hid (Kept (fun i => i = g) w w3) := Lib.hid (KA.out.trans (Kept.ofBelow h3 (fun i => i = g)) (fun _ _ h => h))
     have LV3 := Lib.hid (LV.out.below h3 (by simp))
     clear h3
     cases r
     ·have HTk : Hid ((D.set i x).take (i + 1) = (l.take (j + 1)).filter (fun x => !p x)) := Lib.hid (by
       rw [HT.out]
       simp only [Bool.false_eq_true, if_false]
       rw [← htk.out, List.take_succ_eq_append_getElem (by rw [List.length_set]; omega), List.getElem_set_self, List.take_set_of_le (by omega)])
      have HD2 : Hid ((D.set i x).drop (j + 1) = l.drop (j + 1)) := Lib.hid (by rw [List.drop_set_of_lt (by omega)]; exact HDr.out)
      have HDl : Hid (∀ y ∈ D.set i x, y ∈ l) := Lib.hid (fun y hy => by
       rcases List.mem_or_eq_of_mem_set hy with hy | rfl
       ·exact hDl.out y hy
       ·exact HXl.out)
      obtain ⟨y, hy⟩ : ∃ y, D[i]? = some y := ⟨_, List.getElem?_eq_getElem (by omega)⟩
      have PT := O3.out.putCells hD (fun y hy => HK.out y (hDl.out y hy)) hy 0 (rfV x) (by rw [hlen, Nat.zero_add]; exact Nat.le_refl _) (setAt_all _ _ (by rw [hlen]; exact HK.out y (hDl.out y (List.mem_of_getElem? hy))))
      rw [Nat.add_zero] at PT
      have TH : w3.there g (i * 67) (rfV x).length := fr_there O3.out hD (fun y hy => HK.out y (hDl.out y hy)) hy (by rw [hlen]; exact Nat.le_refl _)
      have PO := Lib.hid PT.1
      have PK : Hid (Kept (fun i => i = g) w (w3.setCells g (i * 67) (rfV x))) := Lib.hid (K3.out.trans (Kept.ofGrown PT.2 (fun i hi => by injection hi with hi; exact hi.symm)) (fun _ _ h => h))
      have TH := Lib.hid TH
      clear PT hy HT htk hDl
      go_wp2_with (first | refine wpList_mload (by rfl) _ (by rfl) (by rfl) LV3.out ?_ | refine wpList_mstore (by rfl) _ _ (by rfl) (by rfl) (by rfl) TH.out HS.out.1 hone.out ?_)
      exact ⟨⟨i + 1, j + 1, D.set i x, by go_num, by go_num, by omega, by omega, by rw [List.length_set]; exact hD, HTk, HD2, HDl, PO, PK⟩, by show l.length - ((j : Int) + 1).toNat < l.length - (j : Int).toNat; omega⟩
     ·have HTk : Hid (D.take i = (l.take (j + 1)).filter (fun x => !p x)) := Lib.hid (by
       rw [HT.out]
       simp only [if_true, List.append_nil]
       exact htk.out)
      clear HT htk
      go_wp2_with fail
      exact ⟨⟨i, j + 1, D, rfl, by go_num, by omega, by omega, hD, HTk, HDr, hDl, O3, K3⟩, by show l.length - ((j : Int) + 1).toNat < l.length - (j : Int).toNat; omega⟩
    ·obtain rfl : j = l.length := by omega
     have HTk : Hid (D.take i = l.filter (fun x => !p x)) := Lib.hid (by have := htk.out; rwa [List.take_length] at this)
     obtain ⟨W', hcl, hout, hkc⟩ := fr_cleared (n := l.length) (m := i) hown.out (fun y hy => HK.out y (hDl.out y hy)) hD hij (cap - i)
     have HO := Lib.hid hout
     have HC := Lib.hid (hkept.out.trans hkc (fun _ _ h => h))
     have hkl2 : (i : Int) < (l.length : Int) := by omega
     have hkk0 : (0 : Int) ≤ (i : Int) := by omega
     have hkc2 : (i : Int) ≤ (cap : Int) := by omega
     clear hout hkc htk hdr hDl hown hkept
     go_wp2_with fail
     go_ret
     exact ⟨_, rfl, rfl, by rw [← HTk.out]; exact HO.out, HC.out.mono (fun i hi => by rw [hi]; rfl)⟩
theorem it_cleared {w W : World} {l : List Know.It} {g cap m n : Nat} (h : RowsOwn 45 67 itV w l (.slice (some ⟨g, 0, none⟩) n cap) W) (hk : ∀ x ∈ l, (itV x).length = 67) (hn : l.length = n) (hm : m < n) (c : Nat) :
  ∃ w', (∀ ty, (Builtin.clear_ #[23] ty #[.slice (some ⟨g, m * 67, none⟩) (n - m) c]).run Tryz.prog W = .ok (.tuple #[]) w') ∧ RowsOwn 45 67 itV w (l.take m) (.slice (some ⟨g, 0, none⟩) m cap) w' ∧ Kept (fun i => i = g) W w' := by
 subst hn
 obtain ⟨w', r1, r2, r3⟩ := own_clear (P := Tryz.prog) h.1 hm Tryz.underlying23 itZero itZ_size itZ_one c
 refine ⟨w', r1, ⟨?_, h.2.grown r3 h.2.size (fun k hk => ?_)⟩, Kept.ofGrown r3 (fun i hi => by injection hi with hi; exact hi.symm)⟩
 ·have e : (l.flatMap itV).take (m * 67) = (l.take m).flatMap itV := by
   have hs : l.flatMap itV = (l.take m).flatMap itV ++ (l.drop m).flatMap itV := by rw [← List.flatMap_append, List.take_append_drop]
   rw [hs, List.take_left' (by rw [rows_len (k := 67) (f := itV) _ (fun x hx => hk x (List.mem_of_mem_take hx)), List.length_take]; omega)]
  rw [e] at r2
  have hl : (l.take m).length = m := by rw [List.length_take]; omega
  rw [hl]
  exact r2
 ·injection hk with hk
  rw [← hk]
  exact (h.1.lt g rfl).1
theorem it_idx_none (A : Option Addr) (c : Nat) (fv : Value) (w : World) :
  Calls Tryz.prog 62 #[.slice A 0 c, fv] w fun e w' => e = .returned (.int .i64 (-1)) ∧ w' = w := by
 go_enter Tryz.func62, Tryz.ntmps62
 go_wp2_with fail
 refine wp_loop_rounds 1 ?_
 rw [rounds_succ]
 go_wp2_with fail
 go_ret
 exact ⟨rfl, rfl⟩
theorem it_index {w : World} {l : List Know.It} {F : Nat → Prop} {b o n cap : Nat} {pv : Value} {p : Know.It → Bool} (h : Rws 67 itV w F (.slice (some ⟨b, o, none⟩) n cap) l) (hn : l.length = n) (hk : ∀ x ∈ l, (itV x).length = 67) (hl : l.length ≤ 100000) (h0 : 0 < l.length)
  (HP : ∀ W, Below w.heap.size w W → ∀ x ∈ l, Calls Tryz.prog 54 #[.agg (itV x).toArray, pv] W fun e w' => e = .returned (.bool (p x)) ∧ Below W.heap.size W w') :
  Calls Tryz.prog 62 #[.slice (some ⟨b, o, none⟩) n cap, .func (.func 54) #[] #[pv]] w fun e w' => ((e = .returned (.int .i64 (-1)) ∧ ∀ x ∈ l, p x = false) ∨ ∃ k x, l[k]? = some x ∧ e = .returned (.int .i64 (k : Nat)) ∧ p x = true ∧ ∀ y ∈ l.take k, p y = false) ∧ Below w.heap.size w w' := by
 subst hn
 obtain ⟨A, cap', e0, hcap, hat⟩ := h
 obtain ⟨b', o', e1, -, hb, hcl⟩ := hat h0
 injection e0 with e0 e2 e3
 rw [e1] at e0
 injection e0 with e0
 injection e0 with e0 e4
 subst e0 e4
 have eg : ∀ args w, (callFunc 54 args).run Tryz.prog w = .ok (.enter 54 args) w := enters_of Tryz.func54 (by kernel_rfl) rfl
 have hz : ∃ z, z ∈ l := ⟨l[0], List.getElem_mem _⟩
 obtain ⟨z, hz⟩ := hz
 have hin : Inhabited {x // x ∈ l} := ⟨⟨z, hz⟩⟩
 have hal : l.attach.length = l.length := List.length_attach
 have hcon := AnyQ.slices_IndexFunc Tryz.idxKn 67 Tryz.isAgg45 Tryz.sizeOf45 (fun x : {x // x ∈ l} => itV x.1) (fun x => hk x.1 x.2) (fun x => p x.1) 54 #[pv] eg b o l.length cap l.attach w
  (fun W x hb => (HP W hb x.1 x.2).mono fun _ _ ⟨he, hb2⟩ => ⟨he, hb.trans (hb2.mono hb.size)⟩) (by omega) (by omega) hb
  (fun j hj i u hi => hcl j l.attach[j]!.1 (by rw [getElem!_pos l.attach j hj, List.getElem_attach]; exact List.getElem?_eq_getElem (by omega)) i u hi)
 rw [List.take_of_length_le (by omega)] at hcon
 refine hcon.mono ?_
 rintro e w' ⟨rfl, hb⟩
 refine ⟨?_, hb⟩
 rcases idx_spec (fun x : {x // x ∈ l} => p x.1) l.attach default with ⟨e, h⟩ | ⟨k, x, hx, e, h1, h2⟩
 ·exact Or.inl ⟨by rw [e], fun x hx => h ⟨x, hx⟩ (List.mem_attach l _)⟩
 ·refine Or.inr ⟨k, x.1, ?_, by rw [e], h1, fun y hy => ?_⟩
  ·obtain ⟨h, e⟩ := List.getElem?_eq_some_iff.1 hx
   rw [List.getElem_attach] at e
   rw [← e]
   exact List.getElem?_eq_getElem (by omega)
  ·obtain ⟨j, hj⟩ := List.getElem?_of_mem hy
   obtain ⟨hjl, e⟩ := List.getElem?_eq_some_iff.1 hj
   rw [List.length_take] at hjl
   rw [List.getElem_take] at e
   have := h2 l.attach[j] (by
    have : (l.attach.take k)[j]? = some l.attach[j] := by
     rw [List.getElem?_take, if_pos (by omega)]; exact List.getElem?_eq_getElem (by omega)
    exact List.mem_of_getElem? this)
   rw [List.getElem_attach] at this
   rw [← e]; exact this
theorem it_delete {w0 w : World} {l : List Know.It} {v pv : Value} {p : Know.It → Bool} (h : RowsOwn 45 67 itV w0 l v w) (hk : ∀ x ∈ l, (itV x).length = 67) (h1 : ∀ x ∈ l, ∀ u ∈ itV x, u.oneCell' = true) (hl : l.length ≤ 100000)
  (HP : ∀ W, Kept (fun i => v.ownBlock = some i) w W → ∀ x ∈ l, Calls Tryz.prog 54 #[.agg (itV x).toArray, pv] W fun e w' => e = .returned (.bool (p x)) ∧ Below W.heap.size W w') :
  Calls Tryz.prog 52 #[v, .func (.func 54) #[] #[pv]] w fun e w' => ∃ v', e = .returned v' ∧ v'.ownBlock = v.ownBlock ∧ RowsOwn 45 67 itV w0 (l.filter fun x => !p x) v' w' ∧ Kept (fun i => v.ownBlock = some i) w w' := by
 rcases Nat.eq_zero_or_pos l.length with h0 | h0
 ·have hl0 : l = [] := List.eq_nil_of_length_eq_zero h0
  subst hl0
  obtain ⟨A, cap, rfl, -⟩ := (h.rows hk).parts
  have IX := Lib.hid (it_idx_none A cap (.func (.func 54) #[] #[pv]))
  have HO := Lib.hid h
  clear h hk h1 HP
  go_enter Tryz.func52, Tryz.ntmps52
  go_wp2_with fail
  refine (IX.out _).mono ?_
  rintro e w1 ⟨rfl, rfl⟩
  go_wp2_with fail
  go_ret
  exact ⟨_, rfl, rfl, HO.out, Kept.refl _ _⟩
 ·obtain ⟨g, cap, rfl, hg0, hgl⟩ := h.1.form h0
  have hcap : l.length ≤ cap := by
   obtain ⟨A, c, e, hc⟩ := (h.rows hk).parts
   injection e with e1 e2 e3
   omega
  have HI := Lib.hid (it_index (h.rows hk) rfl hk hl h0 (fun W hW x hx => HP W (Kept.ofBelow hW _) x hx))
  have H := Lib.hid h
  have HK := Lib.hid hk
  have H1 := Lib.hid h1
  have HPr : Hid (∀ W, Kept (fun i => i = g) w W → ∀ x ∈ l, Calls Tryz.prog 54 #[.agg (itV x).toArray, pv] W fun e w' => e = .returned (.bool (p x)) ∧ Below W.heap.size W w') := Lib.hid (fun W hW x hx => HP W (hW.mono (fun i hi => by rw [hi]; rfl)) x hx)
  have hl' : (l.length : Int) ≤ 100000 := by omega
  have hcap' : (l.length : Int) ≤ (cap : Int) := by omega
  clear h hk h1 HP
  go_enter Tryz.func52, Tryz.ntmps52
  go_wp2_with fail
  refine (HI.out).mono ?_
  rintro e w1 ⟨hcase, hb1⟩
  have HB1 := Lib.hid hb1
  clear hb1
  rcases hcase with ⟨rfl, hnone⟩ | ⟨k, z, hz, rfl, hpz, hbef⟩
  ·have HN : Hid ((l.filter fun x => !p x) = l) := Lib.hid (List.filter_eq_self.2 (fun x hx => by rw [hnone x hx]; rfl))
   clear hnone
   go_wp2_with fail
   go_ret
   exact ⟨_, rfl, rfl, by rw [HN.out]; exact H.out.below (HB1.out.mono (Nat.le_refl _) |> fun h => by exact h), Kept.ofBelow HB1.out _⟩
  ·have hkl : k < l.length := (List.getElem?_eq_some_iff.1 hz).1
   have HF0 : Hid ((l.take (k + 1)).filter (fun x => !p x) = l.take k) := Lib.hid (by
    obtain ⟨hh, e⟩ := List.getElem?_eq_some_iff.1 hz
    rw [List.take_succ_eq_append_getElem hh, e, List.filter_append, List.filter_eq_self.2 (fun x hx => by rw [hbef x hx]; rfl)]
    simp [hpz])
   have hown1 : Hid (RowsOwn 45 67 itV w0 l (.slice (some ⟨g, 0, none⟩) l.length cap) w1) := Lib.hid (H.out.below HB1.out)
   have hk1 : (((k : Nat) : Int) == -1) = false := by simp
   clear hbef hz hpz
   go_wp2_with fail
   go_loopw [5, 6] (fun s5 s6 W => ∃ (i j : Nat) (D : List Know.It), s5 = .int .i64 (i : Int) ∧ s6 = .int .i64 (j : Int) ∧ i < j ∧ j ≤ l.length ∧ D.length = l.length ∧ Hid (D.take i = (l.take j).filter (fun x => !p x)) ∧ Hid (D.drop j = l.drop j) ∧ Hid (∀ x ∈ D, x ∈ l) ∧ Hid (RowsOwn 45 67 itV w0 D (.slice (some ⟨g, 0, none⟩) l.length cap) W) ∧ Hid (Kept (fun i => i = g) w W)) (fun _ s6 _ => l.length - (intOf s6).toNat)
   case atStart => exact ⟨k, k + 1, l, rfl, by go_num, by omega, by omega, rfl, Lib.hid HF0.out.symm, Lib.hid rfl, Lib.hid (fun _ h => h), hown1, Lib.hid (Kept.ofBelow HB1.out _)⟩
   case round =>
    obtain ⟨i, j, D, rfl, rfl, hij, hj, hD, htk, hdr, hDl, hown, hkept⟩ := hrel
    by_cases hlt : j < l.length
    ·obtain ⟨x, hx⟩ : ∃ x, l[j]? = some x := ⟨_, List.getElem?_eq_getElem hlt⟩
     have hxD : D[j]? = some x := by
      have := congrArg (fun L => L[0]?) hdr.out
      simp only [List.getElem?_drop, Nat.add_zero] at this
      rw [this]; exact hx
     have hxl : x ∈ l := List.mem_of_getElem? hx
     have hlen : (itV x).length = 67 := HK.out x hxl
     have LE := it_lies hown.out (fun y hy => HK.out y (hDl.out y hy)) hxD
     have LE := Lib.hid LE
     have hone := Lib.hid (H1.out x hxl)
     have hbA : Below wr.heap.size wr (wr.alloc (.cells (itV x).toArray 45)) := (Below.refl _ _).alloc (Nat.le_refl _) _
     have LV := Lib.hid (it_made wr hlen)
     have KA := Lib.hid (hkept.out.alloc (.cells (itV x).toArray 45))
     have PR := Lib.hid (HPr.out _ KA.out x hxl)
     have OA := Lib.hid (hown.out.below hbA)
     have hn0 : (0 : Int) ≤ (j : Int) := by omega
     have hn1 : (j : Int) < (l.length : Int) := by omega
     have hi0 : (0 : Int) ≤ (i : Int) := by omega
     have hi1 : (i : Int) < (l.length : Int) := by omega
     have HZ := itZero
     have HS : Hid ((Tryz.prog.info? 45).map (·.size) = some (itV x).length ∧ (itV itZ).toArray.size = (itV x).length) := Lib.hid ⟨by rw [hlen]; obtain ⟨i0, hi0, -, hz1, -⟩ := ver_parts itInfo; rw [hi0, Option.map_some, hz1], by rw [hlen]; exact itZ_size⟩
     have HT : Hid ((l.take (j + 1)).filter (fun x => !p x) = (l.take j).filter (fun x => !p x) ++ if p x then [] else [x]) := Lib.hid (by
      obtain ⟨hh, e⟩ := List.getElem?_eq_some_iff.1 hx
      rw [List.take_succ_eq_append_getElem hh, e, List.filter_append]
      cases hp : p x <;> simp [hp])
     have HDr : Hid (D.drop (j + 1) = l.drop (j + 1)) := Lib.hid (by
      have := congrArg (List.drop 1) hdr.out
      rwa [List.drop_drop, List.drop_drop] at this)
     have HX := Lib.hid hx
     have HXl := Lib.hid hxl
     clear hx hxD hxl hdr hbA
     generalize hp : p x = r at *
     go_wp2_with (first | refine wpList_mload (by rfl) _ (by rfl) (by rfl) LE.out ?_ | refine wpList_nstore (by rfl) _ _ (by rfl) (by rfl) (by rfl) HS.out.1 HS.out.2 hone.out ?_ | refine wpList_mload (by rfl) _ (by rfl) (by rfl) LV.out ?_)
     refine (PR.out).mono ?_
     rintro e w3 ⟨rfl, h3⟩
     have O3 := Lib.hid (OA.out.below h3)
     have K3 : Hid (Kept (fun i => i = g) w w3) := Lib.hid (KA.out.trans (Kept.ofBelow h3 (fun i => i = g)) (fun _ _ h => h))
     have LV3 := Lib.hid (LV.out.below h3 (by simp))
     clear h3
     cases r
     ·have HTk : Hid ((D.set i x).take (i + 1) = (l.take (j + 1)).filter (fun x => !p x)) := Lib.hid (by
       rw [HT.out]
       simp only [Bool.false_eq_true, if_false]
       rw [← htk.out, List.take_succ_eq_append_getElem (by rw [List.length_set]; omega), List.getElem_set_self, List.take_set_of_le (by omega)])
      have HD2 : Hid ((D.set i x).drop (j + 1) = l.drop (j + 1)) := Lib.hid (by rw [List.drop_set_of_lt (by omega)]; exact HDr.out)
      have HDl : Hid (∀ y ∈ D.set i x, y ∈ l) := Lib.hid (fun y hy => by
       rcases List.mem_or_eq_of_mem_set hy with hy | rfl
       ·exact hDl.out y hy
       ·exact HXl.out)
      obtain ⟨y, hy⟩ : ∃ y, D[i]? = some y := ⟨_, List.getElem?_eq_getElem (by omega)⟩
      have PT := O3.out.putCells hD (fun y hy => HK.out y (hDl.out y hy)) hy 0 (itV x) (by rw [hlen, Nat.zero_add]; exact Nat.le_refl _) (setAt_all _ _ (by rw [hlen]; exact HK.out y (hDl.out y (List.mem_of_getElem? hy))))
      rw [Nat.add_zero] at PT
      have TH : w3.there g (i * 67) (itV x).length := it_there O3.out hD (fun y hy => HK.out y (hDl.out y hy)) hy (by rw [hlen]; exact Nat.le_refl _)
      have PO := Lib.hid PT.1
      have PK : Hid (Kept (fun i => i = g) w (w3.setCells g (i * 67) (itV x))) := Lib.hid (K3.out.trans (Kept.ofGrown PT.2 (fun i hi => by injection hi with hi; exact hi.symm)) (fun _ _ h => h))
      have TH := Lib.hid TH
      clear PT hy HT htk hDl
      go_wp2_with (first | refine wpList_mload (by rfl) _ (by rfl) (by rfl) LV3.out ?_ | refine wpList_mstore (by rfl) _ _ (by rfl) (by rfl) (by rfl) TH.out HS.out.1 hone.out ?_)
      exact ⟨⟨i + 1, j + 1, D.set i x, by go_num, by go_num, by omega, by omega, by rw [List.length_set]; exact hD, HTk, HD2, HDl, PO, PK⟩, by show l.length - ((j : Int) + 1).toNat < l.length - (j : Int).toNat; omega⟩
     ·have HTk : Hid (D.take i = (l.take (j + 1)).filter (fun x => !p x)) := Lib.hid (by
       rw [HT.out]
       simp only [if_true, List.append_nil]
       exact htk.out)
      clear HT htk
      go_wp2_with fail
      exact ⟨⟨i, j + 1, D, rfl, by go_num, by omega, by omega, hD, HTk, HDr, hDl, O3, K3⟩, by show l.length - ((j : Int) + 1).toNat < l.length - (j : Int).toNat; omega⟩
    ·obtain rfl : j = l.length := by omega
     have HTk : Hid (D.take i = l.filter (fun x => !p x)) := Lib.hid (by have := htk.out; rwa [List.take_length] at this)
     obtain ⟨W', hcl, hout, hkc⟩ := it_cleared (n := l.length) (m := i) hown.out (fun y hy => HK.out y (hDl.out y hy)) hD hij (cap - i)
     have HO := Lib.hid hout
     have HC := Lib.hid (hkept.out.trans hkc (fun _ _ h => h))
     have hkl2 : (i : Int) < (l.length : Int) := by omega
     have hkk0 : (0 : Int) ≤ (i : Int) := by omega
     have hkc2 : (i : Int) ≤ (cap : Int) := by omega
     clear hout hkc htk hdr hDl hown hkept
     go_wp2_with fail
     go_ret
     exact ⟨_, rfl, rfl, by rw [← HTk.out]; exact HO.out, HC.out.mono (fun i hi => by rw [hi]; rfl)⟩
end Go.Proofs.YtkcgmnhjofoeiaaGreat
