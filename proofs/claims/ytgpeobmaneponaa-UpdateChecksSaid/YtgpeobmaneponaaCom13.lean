import Derived.Test.YtgpeobmaneponaaCom7
import Derived.Test.YtgpeobmaneponaaCom8
import Derived.Test.YtgpeobmaneponaaCom3
import Derived.Test.YtgpeobmaneponaaCom2
import Derived.Shelf.GgSortFunc.InsertionK
import Derived.Shelf.Small.Bits
import Derived.Shelf.Small.Wraps
import Derived.Shelf.Strconv.Itoa0
import Derived.Shelf.Strings.Search1
import Derived.Shelf.Strings.Search2
import Derived.Shelf.Strings.Cut
import Derived.Shelf.LaysM
import Derived.Shelf.Strings.Shaped
import Derived.Shelf.Strings.Prefix
import Derived.Shelf.SlicesQ.IndexFunc
import Derived.Shelf.SlLaysF0
import Derived.Test.YtgpeobmaneponaaProg
import Derived.Shelf.SlSortCmp.NoneTotal
set_option maxRecDepth 100000
set_option linter.unusedVariables false
set_option linter.unusedSimpArgs false
set_option maxHeartbeats 12800000
namespace Go.Proofs.Ytgpeobmaneponaa
open List renaming getElem_toArray → z1, getElem_cons_zero → z2, getElem_cons_succ → z3, setIfInBounds_toArray → z4, set_cons_zero → z5, set_cons_succ → z6
open Go.RowKit Go.Sort
theorem up_there {w W : World} {l : List Upd.U} {g n cap i : Nat} {y : Upd.U} (h : RowsOwn 27 8 upV w l (.slice (some ⟨g, 0, none⟩) n cap) W) (hn : l.length = n) (hy : l[i]? = some y) : W.there g (i * 8) 8 := by
 subst hn
 intro k hkm
 have hlt : k < (upV y).length := by rw [up_len]; omega
 have := range_rws (h.rows (fun x _ => up_len x)) hy k _ (List.getElem?_eq_getElem hlt)
 rw [Nat.zero_add] at this
 exact ⟨by rw [this]; rfl, h.1.frozenAt _⟩
theorem up_putAt {w W : World} {l : List Upd.U} {g cap : Nat} (h : RowsOwn 27 8 upV w l (.slice (some ⟨g, 0, none⟩) l.length cap) W) (i : Nat) {y : Upd.U} (hy : l[i]? = some y) (u : Upd.U) :
  RowsOwn 27 8 upV w (l.set i u) (.slice (some ⟨g, 0, none⟩) l.length cap) (W.setCells g (i * 8) (upV u)) := by
 have := (h.putCells rfl (fun x _ => up_len x) hy 0 (upV u) (by rw [up_len]; decide) (setAt_all _ _ (by rw [up_len, up_len]))).1
 rwa [Nat.add_zero] at this
theorem up_cleared {w W : World} {l : List Upd.U} {g cap m n : Nat} (h : RowsOwn 27 8 upV w l (.slice (some ⟨g, 0, none⟩) n cap) W) (hn : l.length = n) (hm : m < n) (c : Nat) :
  ∃ w', (∀ ty, (Builtin.clear_ #[44] ty #[.slice (some ⟨g, m * 8, none⟩) (n - m) c]).run Try.prog W = .ok (.tuple #[]) w') ∧ RowsOwn 27 8 upV w (l.take m) (.slice (some ⟨g, 0, none⟩) m cap) w' := by
 subst hn
 obtain ⟨w', r1, r2, r3⟩ := own_clear (P := Try.prog) h.1 hm Try.underlying44 upZero rfl (by decide) c
 refine ⟨w', r1, ?_, h.2.grown r3 h.2.size (fun k hk => ?_)⟩
 ·have e : (l.flatMap upV).take (m * 8) = (l.take m).flatMap upV := by
   have hs : l.flatMap upV = (l.take m).flatMap upV ++ (l.drop m).flatMap upV := by rw [← List.flatMap_append, List.take_append_drop]
   rw [hs, List.take_left' (by rw [rows_len (k := 8) (f := upV) _ (fun x _ => up_len x), List.length_take]; omega)]
  rw [e] at r2
  have hl : (l.take m).length = m := by rw [List.length_take]; omega
  rw [hl]
  exact r2
 ·injection hk with hk
  rw [← hk]
  exact (h.1.lt g rfl).1
theorem up_done {l dk : List Upd.U} {m kk : Nat} (hm : m = l.length) (hd : dk.length = l.length) (h : Lib.CompInv l.toArray m kk dk.toArray) : dk.take kk = Lib.compact l := by
 subst hm
 have hk := h.lt
 have hlen : (Lib.compact l).length = kk := h.len
 apply List.ext_getElem?
 intro j
 by_cases hj : j < kk
 ·rw [List.getElem?_take_of_lt hj]
  have := h.low j hj
  show dk[j]? = (Lib.compactUpTo l.toArray l.length)[j]?
  rw [this, ← getI_to dk.toArray (by simp; omega)]
 ·rw [List.getElem?_take_eq_none (by omega), List.getElem?_eq_none (by omega)]
theorem up_compact {w wr : World} {v : Value} {l : List Upd.U} (h : RowsOwn 27 8 upV w l v wr) (hl : l.length ≤ 1000000) :
  Calls Try.prog 40 #[v] wr fun e w' => ∃ v', e = .returned v' ∧ RowsOwn 27 8 upV w (Lib.compact l) v' w' := by
 have mixed : Try.prog.follows .mixedOrders = true := by kernel_rfl
 by_cases h2 : l.length < 2
 ·have hfin : Hid (Lib.compact l = l) := Lib.hid (Lib.compact_all l (fun j hj => Lib.keeps_lt_one _ j (by omega)))
  obtain ⟨A, cap, rfl, hcap⟩ := (h.rows (fun x _ => up_len x)).parts
  have H := Lib.hid h
  have h2' : (l.length : Int) < 2 := by omega
  clear h
  go_enter Try.func40, Try.ntmps40
  go_wp2_with fail
  go_ret
  exact ⟨_, rfl, by rw [hfin.out]; exact H.out⟩
 ·obtain ⟨g, cap, rfl, hg0, hgl⟩ := h.1.form (by omega)
  have hcap : l.length ≤ cap := by
   obtain ⟨A, c, e, hc⟩ := (h.rows (fun x _ => up_len x)).parts
   injection e with e1 e2 e3
   omega
  have h2' : ¬ (l.length : Int) < 2 := by omega
  have hl' : (l.length : Int) ≤ 1000000 := by omega
  have hcap' : (l.length : Int) ≤ (cap : Int) := by omega
  have H := Lib.hid h
  clear h
  go_enter Try.func40, Try.ntmps40
  go_wp2_with fail
  go_loopw [3] (fun i W => ∃ k : Nat, 1 ≤ k ∧ k ≤ l.length ∧ i = .int .i64 (k : Int) ∧ Hid (∀ j, j < k → Lib.keeps l.toArray j = true) ∧ Hid (RowsOwn 27 8 upV w l (.slice (some ⟨g, 0, none⟩) l.length cap) W)) (fun i _ => l.length - (intOf i).toNat)
  case atStart => exact ⟨1, Nat.le_refl _, by omega, by go_num, Lib.hid (Lib.keeps_lt_one _), H⟩
  case round =>
   obtain ⟨k, hk1, hk, rfl, hall, hown⟩ := hrel
   by_cases hlt : k < l.length
   ·obtain ⟨x, hx⟩ : ∃ x, l[k]? = some x := ⟨_, List.getElem?_eq_getElem hlt⟩
    obtain ⟨y, hy⟩ : ∃ y, l[k - 1]? = some y := ⟨_, List.getElem?_eq_getElem (by omega)⟩
    have LX := Lib.hid (fun (W : World) (hW : Below wr.heap.size wr W) => (by
     have r := up_lies (range_rws ((hown.out.below hW).rows (fun x _ => up_len x)) hx) (up_len x)
     rwa [Nat.zero_add] at r : Lies 27 W g (k * 8) (upV x)))
    obtain ⟨j, hj⟩ : ∃ j, j = k - 1 := ⟨_, rfl⟩
    have LY := Lib.hid (fun (W : World) (hW : Below wr.heap.size wr W) => (by
     have r := up_lies (range_rws ((hown.out.below hW).rows (fun x _ => up_len x)) hy) (up_len y)
     rwa [Nat.zero_add, ← hj] at r : Lies 27 W g (j * 8) (upV y)))
    have hw1 : IntKind.i64.wrap ((k : Int) - 1) = (j : Int) := by rw [IntWalk.i64_in _ ⟨by omega, by omega⟩]; omega
    have hj0 : (0 : Int) ≤ (j : Int) := by omega
    have hj1 : (j : Int) < (l.length : Int) := by omega
    clear hj
    have hn1 : (k : Int) < (l.length : Int) := by omega
    have hk1' : (1 : Int) ≤ (k : Int) := by omega
    have KX : Hid (l.toArray[k]! = x ∧ l.toArray[k - 1]! = y) := Lib.hid ⟨getI_of hx, getI_of hy⟩
    clear hx hy
    by_cases hxy : x = y
    ·have hneg : Hid (Lib.keeps l.toArray k = false) := Lib.hid (Lib.keeps_neg (by omega) (by rw [KX.out.1, KX.out.2, hxy]))
     have hst := Lib.hid (Lib.CompInv.start hall.out hneg.out)
     have hd := decide_eq_true hxy
     clear hall hneg hxy
     go_wp2_with fail
     refine wp_region_below mixed (by kernel_rfl) ?_
     refine wq_td ?_
     simp only [Act.put, z1, z2, z3, z4, z5, z6]
     refine wq_td ?_
     simp only [Act.put, z1, z2, z3, z4, z5, z6]
     refine wq_td ?_
     simp only [Act.put, z1, z2, z3, z4, z5, z6]
     refine wq_mload (by rfl) (.tmp 18) (by rfl) (by rfl) (fun w h => LX.out w h.below) ?_
     simp only [Act.put, z1, z2, z3, z4, z5, z6]
     refine wq_td ?_
     simp only [Act.put, z1, z2, z3, z4, z5, z6]
     refine wq_td ?_
     simp only [Act.put, z1, z2, z3, z4, z5, z6]
     refine wq_td ?_
     simp only [Act.put, z1, z2, z3, z4, z5, z6]
     refine wq_td ?_
     simp only [Act.put, z1, z2, z3, z4, z5, z6]
     refine wq_mload (by rfl) (.tmp 23) (by rfl) (by rfl) (fun w h => LY.out w h.below) ?_
     simp only [Act.put, z1, z2, z3, z4, z5, z6]
     refine wq_take (v := .bool true) (by kernel_rfl) (by intro w _; exact exec_bin (by rfl) (by rfl) (by rfl) upGuard (by have e := up_eql w x y; rw [hd] at e; exact e)) ?_
     simp only [Act.put, z1, z2, z3, z4, z5, z6]
     refine wq_nil ?_
     intro wq hq
     have hown2 := Lib.hid (hown.out.below hq.below)
     clear hown LX LY hd hq
     go_wp2_with fail
     go_loopw [3, 5] (fun s3 s5 W2 => ∃ (kk k2 : Nat) (dk : List Upd.U), s3 = .int .i64 (kk : Int) ∧ s5 = .int .i64 (k2 : Int) ∧ 1 ≤ k2 ∧ k + k2 ≤ l.length ∧ kk < k + k2 ∧ dk.length = l.length ∧ Hid (Lib.CompInv l.toArray (k + k2) kk dk.toArray) ∧ Hid (RowsOwn 27 8 upV w dk (.slice (some ⟨g, 0, none⟩) dk.length cap) W2)) (fun _ s5 _ => l.length - (intOf s5).toNat)
     case atStart => exact ⟨k, 1, l, rfl, by go_num, Nat.le_refl _, by omega, by omega, rfl, hst, hown2⟩
     case round =>
      clear hown2
      obtain ⟨kk, k2, dk, rfl, rfl, h1, hle, hkk, hdl, hI, hrow⟩ := hrel
      have hk2' : (1 : Int) ≤ (k2 : Int) := by omega
      by_cases hlt2 : k + k2 < l.length
      ·obtain ⟨x, hx⟩ : ∃ x, dk[k + k2]? = some x := ⟨_, List.getElem?_eq_getElem (by omega)⟩
       obtain ⟨y, hy⟩ : ∃ y, dk[k + k2 - 1]? = some y := ⟨_, List.getElem?_eq_getElem (by omega)⟩
       obtain ⟨z, hz⟩ : ∃ z, dk[kk]? = some z := ⟨_, List.getElem?_eq_getElem (by omega)⟩
       have LX := Lib.hid (fun (W : World) (hW : Below wr.heap.size wr W) => (by
        have r := up_lies (range_rws ((hrow.out.below hW).rows (fun x _ => up_len x)) hx) (up_len x)
        rwa [Nat.zero_add, show (k + k2) * 8 = k * 8 + k2 * 8 by omega] at r : Lies 27 W g (k * 8 + k2 * 8) (upV x)))
       obtain ⟨j2, hj2⟩ : ∃ j, j = k2 - 1 := ⟨_, rfl⟩
       have LY := Lib.hid (fun (W : World) (hW : Below wr.heap.size wr W) => (by
        have r := up_lies (range_rws ((hrow.out.below hW).rows (fun x _ => up_len x)) hy) (up_len y)
        rwa [Nat.zero_add, show (k + k2 - 1) * 8 = k * 8 + j2 * 8 by omega] at r : Lies 27 W g (k * 8 + j2 * 8) (upV y)))
       have hw2 : IntKind.i64.wrap ((k2 : Int) - 1) = (j2 : Int) := by rw [IntWalk.i64_in _ ⟨by omega, by omega⟩]; omega
       have hj20 : (0 : Int) ≤ (j2 : Int) := by omega
       have hj21 : (j2 : Int) < (l.length : Int) - (k : Int) := by omega
       have hj22 : j2 < l.length - k := by omega
       clear hj2
       have TH := Lib.hid (fun (W : World) (hW : Below wr.heap.size wr W) => up_there (hrow.out.below hW) rfl hz)
       have PUT := Lib.hid (fun (W : World) (hW : Below wr.heap.size wr W) => up_putAt (hrow.out.below hW) kk hz x)
       have KX : Hid (l.toArray[k + k2]! = x ∧ l.toArray[k + k2 - 1]! = y) := Lib.hid ⟨(hI.out.high _ (by omega)).symm.trans (getI_of hx), (hI.out.high _ (by omega)).symm.trans (getI_of hy)⟩
       have hn1 : (k2 : Int) < (l.length : Int) - (k : Int) := by omega
       have hkl : (kk : Int) < (l.length : Int) := by omega
       have hkk0 : (0 : Int) ≤ (kk : Int) := by omega
       clear hx hy hz
       by_cases hxy : x = y
       ·have hneg : Hid (Lib.keeps l.toArray (k + k2) = false) := Lib.hid (Lib.keeps_neg (by omega) (by rw [KX.out.1, KX.out.2, hxy]))
        have hnext : Hid (Lib.CompInv l.toArray (k + (k2 + 1)) kk dk.toArray) := Lib.hid (hI.out.skip hneg.out)
        have hd := decide_eq_true hxy
        clear hneg hxy
        go_wp2_with fail
        refine wp_region_below mixed (by kernel_rfl) ?_
        refine wq_td ?_
        simp only [Act.put, z1, z2, z3, z4, z5, z6]
        refine wq_td ?_
        simp only [Act.put, z1, z2, z3, z4, z5, z6]
        refine wq_td ?_
        simp only [Act.put, z1, z2, z3, z4, z5, z6]
        refine wq_mload (by rfl) (.tmp 37) (by rfl) (by rfl) (fun w h => LX.out w h.below) ?_
        simp only [Act.put, z1, z2, z3, z4, z5, z6]
        refine wq_td ?_
        simp only [Act.put, z1, z2, z3, z4, z5, z6]
        refine wq_td ?_
        simp only [Act.put, z1, z2, z3, z4, z5, z6]
        refine wq_td ?_
        simp only [Act.put, z1, z2, z3, z4, z5, z6]
        refine wq_td ?_
        simp only [Act.put, z1, z2, z3, z4, z5, z6]
        refine wq_mload (by rfl) (.tmp 42) (by rfl) (by rfl) (fun w h => LY.out w h.below) ?_
        simp only [Act.put, z1, z2, z3, z4, z5, z6]
        refine wq_take (v := .bool (!true)) (by kernel_rfl) (by intro w _; exact exec_bin (by rfl) (by rfl) (by rfl) upGuard (by have e := up_neql w x y; rw [hd] at e; exact e)) ?_
        simp only [Act.put, z1, z2, z3, z4, z5, z6]
        refine wq_nil ?_
        intro wq hq
        have hrow2 := Lib.hid (hrow.out.below hq.below)
        clear hrow LX LY hd hq TH PUT
        go_wp2_with fail
        exact ⟨⟨kk, k2 + 1, dk, rfl, by go_num, by omega, by omega, by omega, hdl, hnext, hrow2⟩, by show l.length - ((k2 : Int) + 1).toNat < l.length - (k2 : Int).toNat; omega⟩
       ·have hpos : Hid (Lib.keeps l.toArray (k + k2) = true) := Lib.hid (Lib.keeps_pos (by rw [KX.out.1, KX.out.2]; exact hxy))
        have hnext : Hid (Lib.CompInv l.toArray (k + (k2 + 1)) (kk + 1) (dk.set kk x).toArray) := Lib.hid (by
         have := hI.out.keep (by simpa using hlt2) hpos.out
         rw [KX.out.1, List.setIfInBounds_toArray] at this
         exact this)
        have hd := decide_eq_false hxy
        clear hpos hxy KX
        go_wp2_with fail
        refine wp_region_below mixed (by kernel_rfl) ?_
        refine wq_td ?_
        simp only [Act.put, z1, z2, z3, z4, z5, z6]
        refine wq_td ?_
        simp only [Act.put, z1, z2, z3, z4, z5, z6]
        refine wq_td ?_
        simp only [Act.put, z1, z2, z3, z4, z5, z6]
        refine wq_mload (by rfl) (.tmp 37) (by rfl) (by rfl) (fun w h => LX.out w h.below) ?_
        simp only [Act.put, z1, z2, z3, z4, z5, z6]
        refine wq_td ?_
        simp only [Act.put, z1, z2, z3, z4, z5, z6]
        refine wq_td ?_
        simp only [Act.put, z1, z2, z3, z4, z5, z6]
        refine wq_td ?_
        simp only [Act.put, z1, z2, z3, z4, z5, z6]
        refine wq_td ?_
        simp only [Act.put, z1, z2, z3, z4, z5, z6]
        refine wq_mload (by rfl) (.tmp 42) (by rfl) (by rfl) (fun w h => LY.out w h.below) ?_
        simp only [Act.put, z1, z2, z3, z4, z5, z6]
        refine wq_take (v := .bool (!false)) (by kernel_rfl) (by intro w _; exact exec_bin (by rfl) (by rfl) (by rfl) upGuard (by have e := up_neql w x y; rw [hd] at e; exact e)) ?_
        simp only [Act.put, z1, z2, z3, z4, z5, z6]
        refine wq_nil ?_
        intro wq hq
        have THq : Hid (wq.there g (kk * 8) (upV x).length) := Lib.hid (by rw [up_len]; exact TH.out wq hq.below)
        have LXq := Lib.hid (LX.out wq hq.below)
        have PUTq : Hid (RowsOwn 27 8 upV w (dk.set kk x) (.slice (some ⟨g, 0, none⟩) (dk.set kk x).length cap) (wq.setCells g (kk * 8) (upV x))) := Lib.hid (by rw [List.length_set]; exact PUT.out wq hq.below)
        have HSX : Hid ((Try.prog.info? 27).map (·.size) = some (upV x).length) := Lib.hid (upSize x)
        have H1X := Lib.hid (up_one x)
        clear hrow LX LY hd hq TH PUT
        go_wp2_with (first | refine wpList_mload (by rfl) (.tmp 49) (by rfl) (by rfl) LXq.out ?_ | refine wpList_mstoreV (cs := upV x) (by rfl) (.tmp 51) (.tmp 50) (by rfl) (by rfl) (by rfl) THq.out HSX.out H1X.out ?_)
        rintro w9 hw9
        have PUT9 := PUTq.out
        rw [← hw9.out] at PUT9
        replace PUT9 := Lib.hid PUT9
        clear hw9 PUTq
        go_wp2_with fail
        exact ⟨⟨kk + 1, k2 + 1, _, by go_num, by go_num, by omega, by omega, by omega, by rw [List.length_set]; exact hdl, hnext, PUT9⟩, by show l.length - ((k2 : Int) + 1).toNat < l.length - (k2 : Int).toNat; omega⟩
      ·have hend : k + k2 = l.length := by omega
       have hm : kk < l.length := by omega
       obtain ⟨W', hcl, hout⟩ := up_cleared (n := l.length) (m := kk) (by have := hrow.out; rwa [hdl] at this) hdl hm (cap - kk)
       have hfin : Hid (dk.take kk = Lib.compact l) := Lib.hid (up_done hend hdl hI.out)
       have HO := Lib.hid hout
       have hkl : (kk : Int) < (l.length : Int) := by omega
       have hkk0 : (0 : Int) ≤ (kk : Int) := by omega
       have hkc : (kk : Int) ≤ (cap : Int) := by omega
       clear hout
       go_wp2_with fail
       go_ret
       exact ⟨_, rfl, by rw [← hfin.out]; exact HO.out⟩
    ·have hpos : Hid (∀ j, j < k + 1 → Lib.keeps l.toArray j = true) := Lib.hid (fun j hj => by
      by_cases e : j = k
      ·subst e
       exact Lib.keeps_pos (by rw [KX.out.1, KX.out.2]; exact hxy)
      ·exact hall.out j (by omega))
     have hd := decide_eq_false hxy
     clear hall hxy KX
     go_wp2_with fail
     refine wp_region_below mixed (by kernel_rfl) ?_
     refine wq_td ?_
     simp only [Act.put, z1, z2, z3, z4, z5, z6]
     refine wq_td ?_
     simp only [Act.put, z1, z2, z3, z4, z5, z6]
     refine wq_td ?_
     simp only [Act.put, z1, z2, z3, z4, z5, z6]
     refine wq_mload (by rfl) (.tmp 18) (by rfl) (by rfl) (fun w h => LX.out w h.below) ?_
     simp only [Act.put, z1, z2, z3, z4, z5, z6]
     refine wq_td ?_
     simp only [Act.put, z1, z2, z3, z4, z5, z6]
     refine wq_td ?_
     simp only [Act.put, z1, z2, z3, z4, z5, z6]
     refine wq_td ?_
     simp only [Act.put, z1, z2, z3, z4, z5, z6]
     refine wq_td ?_
     simp only [Act.put, z1, z2, z3, z4, z5, z6]
     refine wq_mload (by rfl) (.tmp 23) (by rfl) (by rfl) (fun w h => LY.out w h.below) ?_
     simp only [Act.put, z1, z2, z3, z4, z5, z6]
     refine wq_take (v := .bool false) (by kernel_rfl) (by intro w _; exact exec_bin (by rfl) (by rfl) (by rfl) upGuard (by have e := up_eql w x y; rw [hd] at e; exact e)) ?_
     simp only [Act.put, z1, z2, z3, z4, z5, z6]
     refine wq_nil ?_
     intro wq hq
     have hown2 := Lib.hid (hown.out.below hq.below)
     clear hown LX LY hd hq
     go_wp2_with fail
     exact ⟨⟨k + 1, by omega, by omega, by go_num, hpos, hown2⟩, by show l.length - ((k : Int) + 1).toNat < l.length - (k : Int).toNat; omega⟩
   ·obtain rfl : k = l.length := by omega
    have hfin : Hid (Lib.compact l = l) := Lib.hid (Lib.compact_all l hall.out)
    clear hall
    go_wp2_with fail
    go_ret
    exact ⟨_, rfl, by rw [hfin.out]; exact hown.out⟩
end Go.Proofs.Ytgpeobmaneponaa
namespace Go.Proofs.Ytgpeobmaneponaa
open Go.RowKit Go.Sort
section
variable {α : Type} [Inhabited α] {enc : α → List Value} {k : Nat}
theorem flat_list (hk : ∀ x, (enc x).length = k) (h0 : 0 < k) (d : Array α) : (flatK enc k d).toList = d.toList.flatMap enc := by
 apply List.ext_getElem?
 intro j
 by_cases hj : j < d.size * k
 ·have hq : j / k < d.size := Nat.div_lt_of_lt_mul (by rwa [Nat.mul_comm])
  have hr : j % k < k := Nat.mod_lt _ h0
  have e := get_flatK enc k d j hj
  have hs : j < (flatK enc k d).size := by rw [size_flatK]; exact hj
  rw [Array.getElem?_toList, Array.getElem?_eq_getElem hs, ← getElem!_pos (flatK enc k d) j hs, e]
  have hx : d.toList[j / k]? = some d[j / k]! := by rw [Array.getElem?_toList, Array.getElem?_eq_getElem hq, getElem!_pos d _ hq]
  have hl : j % k < (enc d[j / k]!).length := by rw [hk]; exact hr
  have hu : (enc d[j / k]!)[j % k]? = some (enc d[j / k]!)[j % k]! := by rw [List.getElem?_eq_getElem hl, getElem!_pos (enc d[j / k]!) _ hl]
  have h1 := rows_at d.toList (fun x _ => hk x) (j / k) _ hx (j % k) _ hu
  rw [← h1]
  congr 1
  exact Nat.div_add_mod' j k
 ·have h2 := rows_len d.toList (fun x _ => hk x)
  rw [List.getElem?_eq_none (by simp; omega), List.getElem?_eq_none (by rw [h2]; simp; omega)]
theorem own_holds (hk : ∀ x, (enc x).length = k) (h0 : 0 < k) {w : World} {base t n g cap : Nat} {l : List α} (h : w.ownsRow base t k (.slice (some ⟨g, 0, none⟩) n cap) n (l.flatMap enc)) : HoldsK enc k w g 0 l.toArray := by
 intro j hj
 rw [size_flatK] at hj
 have hl : l.length * k = n * k := by rw [← rows_len l (fun x _ => hk x)]; exact h.1
 have hj2 : j < n * k := by rw [← hl]; simpa using hj
 refine ⟨?_, ?_⟩
 ·rw [Nat.zero_add, h.cellAt j hj2]
  have hs : j < (flatK enc k l.toArray).size := by rw [size_flatK]; exact hj
  have e : (flatK enc k l.toArray).toList[j]? = some (flatK enc k l.toArray)[j]! := by rw [Array.getElem?_toList, Array.getElem?_eq_getElem hs, getElem!_pos (flatK enc k l.toArray) j hs]
  rw [flat_list hk h0] at e
  exact e
 ·rw [Nat.zero_add]
  exact h.frozenAt j
theorem heap_sortK {w : World} {g n : Nat} {os : Array Obj} {cur : Array Value} {e : TypeId} {fr : Nat × Nat} (d : Array α) (hb : w.heap[g]? = some (.cells cur e fr)) :
  (Go.Proofs.sortWorldK enc k w g 0 n d os).heap[g]? = some (.cells (putCells id 0 (flatK enc k d) cur) e fr) := by
 have hg : g < w.heap.size := (Array.getElem?_eq_some_iff.1 hb).1
 unfold Go.Proofs.sortWorldK putRowK
 rw [heap_grow_old _ _ (by simpa using hg)]
 simp [putRow, mapBlock, Sort.ahead, Array.getElem?_modify, hb, onCells]
theorem grown_sortK {w : World} {g n : Nat} {os : Array Obj} (d : Array α) : w.grownBy (Go.Proofs.sortWorldK enc k w g 0 n d os) (some g) := by
 unfold Go.Proofs.sortWorldK putRowK
 refine ⟨rfl, rfl, rfl, by simp, fun j hj hne => ?_⟩
 rw [heap_grow_old _ _ (by simpa using hj)]
 have : g ≠ j := fun e => hne (by rw [e])
 simp [putRow, mapBlock, Sort.ahead, Array.getElem?_modify, this]
theorem take_put (cur F : Array Value) (h : F.size ≤ cur.size) : (putCells id 0 F cur).toList.take F.size = F.toList := by
 apply List.ext_getElem?
 intro j
 by_cases hj : j < F.size
 ·rw [List.getElem?_take_of_lt hj, Array.getElem?_toList]
  simp [putCells, hj, show j < cur.size by omega]
 ·rw [List.getElem?_take_eq_none (by omega), List.getElem?_eq_none (by simpa using hj)]
theorem own_sorted (hk : ∀ x, (enc x).length = k) (h0 : 0 < k) {w : World} {base t n m g cap : Nat} {l : List α} {d : Array α} {os : Array Obj} (h : w.ownsRow base t k (.slice (some ⟨g, 0, none⟩) n cap) n (l.flatMap enc)) (hd : d.size = n) :
  (Go.Proofs.sortWorldK enc k w g 0 m d os).ownsRow base t k (.slice (some ⟨g, 0, none⟩) n cap) n (d.toList.flatMap enc) := by
 refine ⟨by rw [rows_len d.toList (fun x _ => hk x)]; simp [hd], ?_⟩
 rcases h.2 with ⟨e, -⟩ | ⟨g2, cap2, cur, e, hb, hg, hc, hm, hs, ht⟩
 ·cases e
 ·injection e with e1 e2 e3
  injection e1 with e1
  injection e1 with e1
  subst e1 e3
  refine .inr ⟨g, cap, _, rfl, hb, heap_sortK d hg, hc, hm, by simp [putCells, hs], ?_⟩
  have hf : (flatK enc k d).size = n * k := by rw [size_flatK, hd]
  rw [← hf, take_put cur _ (by rw [hf, hs]; exact Nat.mul_le_mul_right _ hc), flat_list hk h0]
theorem RowsOwn.sorted (hk : ∀ x, (enc x).length = k) (h0 : 0 < k) {w wr : World} {t m g cap : Nat} {l : List α} {d : Array α} {os : Array Obj} (h : RowsOwn t k enc w l (.slice (some ⟨g, 0, none⟩) l.length cap) wr) (hd : d.size = l.length) :
  RowsOwn t k enc w d.toList (.slice (some ⟨g, 0, none⟩) l.length cap) (Go.Proofs.sortWorldK enc k wr g 0 m d os) := by
 have hg := h.1.lt g rfl
 refine ⟨?_, h.2.grown (grown_sortK d) h.2.size (fun j hj => by injection hj with hj; omega)⟩
 have h1 := own_sorted (m := m) (os := os) hk h0 h.1 hd
 have e : d.toList.length = l.length := by simpa using hd
 rw [e]
 exact h1
theorem perm_list {l : List α} {d : Array α} (h : PermIn 0 l.toArray.size l.toArray d) : d.toList.Perm l ∧ d.size = l.length := by
 obtain ⟨h1, -, h3⟩ := h
 have hs : d.size = l.length := by simpa using h1
 refine ⟨?_, hs⟩
 have e1 : d.extract 0 l.toArray.size = d := by rw [← h1]; exact Array.extract_size
 have e2 : l.toArray.extract 0 l.toArray.size = l.toArray := Array.extract_size
 rw [e1, e2] at h3
 exact h3
end
end Go.Proofs.Ytgpeobmaneponaa
namespace Go.Proofs
open Go.Shelf
open Go.RowKit in
def Try.lays103_ren : Go.Shelf.Ren := ⟨fun | 103 => 59 | 210 => 76 | 206 => 77 | n => n, fun | 9 => 9 | 4 => 4 | 24 => 92 | 3 => 3 | n => n, fun | n => n⟩
theorem Try.lays103 : Go.Proofs.Lays.n103 Try.prog Try.lays103_ren := {
 mixed := by kernel_rfl
 f103 := Try.func59.trans (congrArg some (by kernel_rfl))
 f206 := Try.func77.trans (congrArg some (by kernel_rfl))
 f210 := Try.func76.trans (congrArg some (by kernel_rfl))
 t3 := Try.underlying3
 a3 := Try.isAgg3
 z3 := Try.sizeOf3
 v3 := Try.zeroValue3
 t4 := Try.underlying4
 a4 := Try.isAgg4
 z4 := Try.sizeOf4
 v4 := Try.zeroValue4
 t9 := Try.underlying9
 a9 := Try.isAgg9
 z9 := Try.sizeOf9
 v9 := Try.zeroValue9
 t24 := Try.underlying92
 a24 := Try.isAgg92
 z24 := Try.sizeOf92
 v24 := Try.zeroValue92 }
open Go.RowKit in
theorem Try.strings_CutPrefix (s p : ByteArray) (w : World) :
  Calls Try.prog 59 #[.string s, .string p] w fun e w' => e = .returned (.tuple #[.string ⟨(Lib.trimPrefix s.data.toList p.data.toList).toArray⟩, .bool (Lib.hasPrefix s.data.toList p.data.toList)]) ∧ w' = w := Any.strings_CutPrefix Try.lays103 s p w
open Go.RowKit Go.Lib in
open Go.RowKit Go.Lib in
open Go.RowKit Go.Lib in
open Go.RowKit Go.Lib in
def Try.lays219_ren : Go.Shelf.Ren := ⟨fun | 219 => 84 | 217 => 86 | 225 => 87 | 224 => 88 | 267 => 89 | 266 => 90 | 314 => 91 | n => n, fun | 9 => 9 | 3 => 3 | 4 => 4 | 5 => 5 | 46 => 87 | 146 => 121 | 51 => 105 | n => n, fun | 1 => 0 | n => n⟩
theorem Try.lays219 : Go.Proofs.Lays.n219 Try.prog Try.lays219_ren := {
 mixed := by kernel_rfl
 f217 := Try.func86.trans (congrArg some (by kernel_rfl))
 f219 := Try.func84.trans (congrArg some (by kernel_rfl))
 f224 := Try.func88.trans (congrArg some (by kernel_rfl))
 f225 := Try.func87.trans (congrArg some (by kernel_rfl))
 f266 := Try.func90.trans (congrArg some (by kernel_rfl))
 f267 := Try.func89.trans (congrArg some (by kernel_rfl))
 f314 := Try.func91.trans (congrArg some (by kernel_rfl))
 t3 := Try.underlying3
 a3 := Try.isAgg3
 z3 := Try.sizeOf3
 v3 := Try.zeroValue3
 t4 := Try.underlying4
 a4 := Try.isAgg4
 z4 := Try.sizeOf4
 v4 := Try.zeroValue4
 t5 := Try.underlying5
 a5 := Try.isAgg5
 z5 := Try.sizeOf5
 v5 := Try.zeroValue5
 t9 := Try.underlying9
 a9 := Try.isAgg9
 z9 := Try.sizeOf9
 v9 := Try.zeroValue9
 t46 := Try.underlying87
 a46 := Try.isAgg87
 z46 := Try.sizeOf87
 v46 := Try.zeroValue87
 t51 := Try.underlying105
 a51 := Try.isAgg105
 z51 := Try.sizeOf105
 v51 := Try.zeroValue105
 t146 := Try.underlying121
 a146 := Try.isAgg121
 z146 := Try.sizeOf121
 v146 := Try.zeroValue121
 g1 := by kernel_rfl }
open Go.RowKit Go.Lib in
theorem Try.stringslite_Index_one (s : ByteArray) (c : UInt8) (w : World) :
  Calls Try.prog 84 #[.string s, .string ⟨#[c]⟩] w fun e w' => e = .returned (.int .i64 (Lib.indexByte s.data.toList c)) ∧ w' = w := Any.stringslite_Index_one Try.lays219 s c w
open Go.RowKit Go.Lib in
open Go.RowKit Go.Lib in
open Go.RowKit Go.Lib in
open Go.RowKit Go.Lib in
open Go.RowKit Go.Lib in
open Go.RowKit Go.Lib in
open Go.RowKit Go.Lib in
def Try.lays99_ren : Go.Shelf.Ren := ⟨fun | 99 => 60 | 206 => 77 | n => n, fun | 9 => 9 | 4 => 4 | 3 => 3 | n => n, fun | n => n⟩
theorem Try.lays99 : Go.Proofs.Lays.n99 Try.prog Try.lays99_ren := {
 mixed := by kernel_rfl
 f99 := Try.func60.trans (congrArg some (by kernel_rfl))
 f206 := Try.func77.trans (congrArg some (by kernel_rfl))
 t3 := Try.underlying3
 a3 := Try.isAgg3
 z3 := Try.sizeOf3
 v3 := Try.zeroValue3
 t4 := Try.underlying4
 a4 := Try.isAgg4
 z4 := Try.sizeOf4
 v4 := Try.zeroValue4
 t9 := Try.underlying9
 a9 := Try.isAgg9
 z9 := Try.sizeOf9
 v9 := Try.zeroValue9 }
open Go.RowKit Go.Lib in
theorem Try.strings_HasPrefix (s p : ByteArray) (w : World) :
  Calls Try.prog 60 #[.string s, .string p] w fun e w' => e = .returned (.bool (Lib.hasPrefix s.data.toList p.data.toList)) ∧ w' = w := Any.strings_HasPrefix Try.lays99 s p w
def Try.hasRg_ren : Go.Shelf.Ren := ⟨fun | 8 => 61 | 6 => 78 | n => n, fun | 22 => 82 | 23 => 63 | 25 => 95 | 4 => 4 | 3 => 3 | 0 => 0 | n => n, fun | n => n⟩
theorem Try.hasRg : Go.Proofs.SlLaysH0.n8 Try.prog Try.hasRg_ren := {
 mixed := by kernel_rfl
 f6 := ⟨Try.f78.name, by decide, Try.func78.trans (congrArg some (by kernel_rfl))⟩
 f8 := ⟨Try.f61.name, by decide, Try.func61.trans (congrArg some (by kernel_rfl))⟩
 t0 := Try.underlying0
 a0 := Try.isAgg0
 z0 := Try.sizeOf0
 v0 := Try.zeroValue0
 t3 := Try.underlying3
 a3 := Try.isAgg3
 z3 := Try.sizeOf3
 v3 := Try.zeroValue3
 t4 := Try.underlying4
 a4 := Try.isAgg4
 z4 := Try.sizeOf4
 v4 := Try.zeroValue4
 t22 := Try.underlying82
 a22 := Try.isAgg82
 z22 := Try.sizeOf82
 v22 := Try.zeroValue82
 t25 := Try.underlying95
 a25 := Try.isAgg95
 z25 := Try.sizeOf95
 v25 := Try.zeroValue95 }
def Try.hasCl_ren : Go.Shelf.Ren := ⟨fun | 8 => 49 | 6 => 58 | n => n, fun | 22 => 40 | 23 => 65 | 25 => 83 | 4 => 4 | 3 => 3 | 0 => 0 | n => n, fun | n => n⟩
theorem Try.hasCl : Go.Proofs.SlLaysH0.n8 Try.prog Try.hasCl_ren := {
 mixed := by kernel_rfl
 f6 := ⟨Try.f58.name, by decide, Try.func58.trans (congrArg some (by kernel_rfl))⟩
 f8 := ⟨Try.f49.name, by decide, Try.func49.trans (congrArg some (by kernel_rfl))⟩
 t0 := Try.underlying0
 a0 := Try.isAgg0
 z0 := Try.sizeOf0
 v0 := Try.zeroValue0
 t3 := Try.underlying3
 a3 := Try.isAgg3
 z3 := Try.sizeOf3
 v3 := Try.zeroValue3
 t4 := Try.underlying4
 a4 := Try.isAgg4
 z4 := Try.sizeOf4
 v4 := Try.zeroValue4
 t22 := Try.underlying40
 a22 := Try.isAgg40
 z22 := Try.sizeOf40
 v22 := Try.zeroValue40
 t25 := Try.underlying83
 a25 := Try.isAgg83
 z25 := Try.sizeOf83
 v25 := Try.zeroValue83 }
def Try.sortUp_ren : Go.Shelf.Ren := ⟨fun | 6 => 38 | 15 => 55 | 14 => 54 | 28 => 71 | 29 => 72 | 20 => 63 | 21 => 64 | 22 => 65 | 23 => 66 | 24 => 67 | 25 => 68 | 26 => 69 | 27 => 70 | 46 => 79 | 47 => 80 | 48 => 81 | 49 => 82 | 50 => 83 | 57 => 85 | n => n, fun | 22 => 44 | 24 => 27 | 25 => 70 | 3 => 3 | 39 => 87 | 0 => 0 | 53 => 105 | 55 => 107 | 4 => 4 | 46 => 98 | 45 => 97 | 50 => 102 | 5 => 5 | 9 => 9 | 66 => 109 | 70 => 113 | 76 => 116 | 77 => 117 | n => n, fun | n => n⟩
theorem Try.sortUp : Go.Proofs.SlLaysF0.n6 Try.prog Try.sortUp_ren := {
 mixed := by kernel_rfl
 f6 := ⟨Try.f38.name, by decide, Try.func38.trans (congrArg some (by kernel_rfl))⟩
 f14 := ⟨Try.f54.name, by decide, Try.func54.trans (congrArg some (by kernel_rfl))⟩
 f15 := Try.func55.trans (congrArg some (by kernel_rfl))
 f20 := ⟨Try.f63.name, by decide, Try.func63.trans (congrArg some (by kernel_rfl))⟩
 f21 := ⟨Try.f64.name, by decide, Try.func64.trans (congrArg some (by kernel_rfl))⟩
 f22 := ⟨Try.f65.name, by decide, Try.func65.trans (congrArg some (by kernel_rfl))⟩
 f23 := ⟨Try.f66.name, by decide, Try.func66.trans (congrArg some (by kernel_rfl))⟩
 f24 := ⟨Try.f67.name, by decide, Try.func67.trans (congrArg some (by kernel_rfl))⟩
 f25 := ⟨Try.f68.name, by decide, Try.func68.trans (congrArg some (by kernel_rfl))⟩
 f26 := ⟨Try.f69.name, by decide, Try.func69.trans (congrArg some (by kernel_rfl))⟩
 f27 := ⟨Try.f70.name, by decide, Try.func70.trans (congrArg some (by kernel_rfl))⟩
 f28 := Try.func71.trans (congrArg some (by kernel_rfl))
 f29 := Try.func72.trans (congrArg some (by kernel_rfl))
 f46 := ⟨Try.f79.name, by decide, Try.func79.trans (congrArg some (by kernel_rfl))⟩
 f47 := Try.func80.trans (congrArg some (by kernel_rfl))
 f48 := Try.func81.trans (congrArg some (by kernel_rfl))
 f49 := ⟨Try.f82.name, by decide, Try.func82.trans (congrArg some (by kernel_rfl))⟩
 f50 := ⟨Try.f83.name, by decide, Try.func83.trans (congrArg some (by kernel_rfl))⟩
 f57 := ⟨Try.f85.name, by decide, Try.func85.trans (congrArg some (by kernel_rfl))⟩
 t0 := Try.underlying0
 a0 := Try.isAgg0
 z0 := Try.sizeOf0
 v0 := Try.zeroValue0
 t3 := Try.underlying3
 a3 := Try.isAgg3
 z3 := Try.sizeOf3
 v3 := Try.zeroValue3
 t4 := Try.underlying4
 a4 := Try.isAgg4
 z4 := Try.sizeOf4
 v4 := Try.zeroValue4
 t5 := Try.underlying5
 a5 := Try.isAgg5
 z5 := Try.sizeOf5
 v5 := Try.zeroValue5
 t9 := Try.underlying9
 a9 := Try.isAgg9
 z9 := Try.sizeOf9
 v9 := Try.zeroValue9
 t22 := Try.underlying44
 a22 := Try.isAgg44
 z22 := Try.sizeOf44
 v22 := Try.zeroValue44
 t25 := Try.underlying70
 a25 := Try.isAgg70
 z25 := Try.sizeOf70
 v25 := Try.zeroValue70
 t39 := Try.underlying87
 a39 := Try.isAgg87
 z39 := Try.sizeOf87
 v39 := Try.zeroValue87
 t45 := Try.underlying97
 a45 := Try.isAgg97
 z45 := Try.sizeOf97
 v45 := Try.zeroValue97
 t46 := Try.underlying98
 a46 := Try.isAgg98
 z46 := Try.sizeOf98
 v46 := Try.zeroValue98
 t50 := Try.underlying102
 a50 := Try.isAgg102
 z50 := Try.sizeOf102
 v50 := Try.zeroValue102
 t53 := Try.underlying105
 a53 := Try.isAgg105
 z53 := Try.sizeOf105
 v53 := Try.zeroValue105
 t55 := Try.underlying107
 a55 := Try.isAgg107
 z55 := Try.sizeOf107
 v55 := Try.zeroValue107
 t66 := Try.underlying109
 a66 := Try.isAgg109
 z66 := Try.sizeOf109
 v66 := Try.zeroValue109
 t70 := Try.underlying113
 a70 := Try.isAgg113
 z70 := Try.sizeOf113
 v70 := Try.zeroValue113
 t76 := Try.underlying116
 a76 := Try.isAgg116
 z76 := Try.sizeOf116
 v76 := Try.zeroValue116
 t77 := Try.underlying117
 a77 := Try.isAgg117
 z77 := Try.sizeOf117
 v77 := Try.zeroValue117 }
end Go.Proofs
namespace Go.Proofs.Ytgpeobmaneponaa
open Go.RowKit Go.Shelf Go.Lib Go.Sort
theorem lt_uorder (x y : Upd.U) : ltOf Upd.order x y = decide (Ver.Before x.item y.item) := by
 unfold ltOf Upd.order
 by_cases h : Ver.Before x.item y.item
 ·simp [h]
 ·by_cases h2 : Ver.Before y.item x.item <;> simp [h, h2]
theorem swo_uorder : SWO (ltOf Upd.order) where
 irrefl x := by rw [lt_uorder]; exact decide_eq_false (Ver.before_irrefl x.item)
 trans x y z h1 h2 := by
  rw [lt_uorder] at *
  exact decide_eq_true (Ver.before_trans (of_decide_eq_true h1) (of_decide_eq_true h2))
 ntrans x y z h1 h2 := by
  rw [lt_uorder] at *
  have k1 := of_decide_eq_false h1
  have k2 := of_decide_eq_false h2
  exact decide_eq_false (by unfold Ver.Before at *; omega)
theorem up_sortfn (V : VersOk) {w wr : World} {v : Value} {l : List Upd.U} (h : RowsOwn 27 8 upV w l v wr) (hl : l.length ≤ 1000000) :
  Calls Try.prog 38 #[v, .func (.func 39) #[] #[]] wr fun e w' => e = .returned (.tuple #[]) ∧ ∃ T : List Upd.U, RowsOwn 27 8 upV w T v w' ∧ T.Perm l ∧ ∀ (i j : Nat) (x y : Upd.U), i < j → T[i]? = some x → T[j]? = some y → ¬ Ver.Before y.item x.item := by
 rcases Nat.eq_zero_or_pos l.length with h0 | h0
 ·have hl0 : l = [] := List.eq_nil_of_length_eq_zero h0
  subst hl0
  obtain ⟨A, cap, e, -⟩ := (h.rows (fun _ _ => rfl)).parts
  rw [List.length_nil] at e
  subst e
  refine (AnyF.slices_SortFunc_none (P := Try.prog) (ρ := Try.sortUp_ren) { Try.sortUp with } A cap _ wr).mono ?_
  rintro e w' ⟨rfl, rfl⟩
  exact ⟨rfl, [], h, List.Perm.refl _, fun i j x y _ hx _ => by simp at hx⟩
 ·obtain ⟨g, cap, rfl, hg0, hgl⟩ := h.1.form (by omega)
  have eg : ∀ args w, (callFunc 39 args).run Try.prog w = .ok (.enter 39 args) w := enters_of Try.func39 (by kernel_rfl) rfl
  have hcon := AnyQ.slices_SortFunc Try.sortUp 8 Try.isAgg27 Try.sizeOf27 upV up_len up_one Upd.order swo_uorder 39 #[] g 0 cap l.toArray wr eg (fun _ _ _ _ x y => upd_order V x y _) (own_holds up_len (by decide) h.1) hgl (by simp; omega)
  refine hcon.mono ?_
  rintro e w' ⟨rfl, d, n, os, hp, hs, rfl⟩
  obtain ⟨hperm, hsz⟩ := perm_list hp
  refine ⟨rfl, d.toList, h.sorted up_len (by decide) hsz, hperm, fun i j x y hij hx hy => ?_⟩
  rw [Array.getElem?_toList] at hx hy
  obtain ⟨hi, ex⟩ := Array.getElem?_eq_some_iff.1 hx
  obtain ⟨hj, ey⟩ := Array.getElem?_eq_some_iff.1 hy
  have hlt := hs i j (Nat.zero_le _) hij (by simpa [hsz] using hj)
  rw [lt_uorder, getElem!_pos d i hi, getElem!_pos d j hj, ex, ey] at hlt
  exact of_decide_eq_false hlt
end Go.Proofs.Ytgpeobmaneponaa
