import Derived.Test.YtpafpegcodempaaCom5
import Derived.Test.YtpafpegcodempaaCom11
import Derived.Test.YtpafpegcodempaaCom9
import Derived.Test.YtpafpegcodempaaCom7
import Derived.Test.YtpafpegcodempaaCom6
import Derived.Test.YtpafpegcodempaaCom4
import Derived.Test.YtpafpegcodempaaCom8
import Derived.Shelf.SlSortCmp.QuietGrown
import Derived.Shelf.Small.Bits
import Derived.Shelf.Strconv.Itoa0
import Derived.Shelf.LaysM
import Derived.Shelf.Strconv.Clone
import Derived.Shelf.SlLaysF0
import Derived.Shelf.SlicesE.Clone
import Derived.Shelf.SlicesQ.IndexFunc
import Derived.Test.YtpafpegcodempaaProg
import Derived.Shelf.GgSortFunc.InsertionK
import Derived.Shelf.SlSortCmp.NoneTotal
import Derived.Great.Walk
import Derived.WalkMore
set_option maxRecDepth 100000
set_option linter.all false
set_option maxHeartbeats 12800000
namespace Go.Proofs.Ytpafpegcodempaa
open Go.RowKit Go.Sort
theorem vec_ends (w : World) {v : List Int} (hv : v.length = 65) : Calls Try.prog 38 #[vecA v] w fun e w' => ∃ s, e = .returned s ∧ RowsOwn 43 2 verV w (Vec.ends v) s w' := by
 obtain ⟨i0, hi0, hz0, hz1, hz2⟩ := ver_parts verInfo
 have CL := Lib.hid (fun W => vec_clean W hv)
 have R0 := Lib.hid (VRow.made w hv)
 have HL := Lib.hid (Laid.new w (.cells (vecR v) 23))
 clear hv
 go_enter Try.func38, Try.ntmps38
 go_wp2_with (refine wpList_vload (by rfl) _ (by rfl) (by rfl) R0.out ?_)
 refine (CL.out _).mono ?_
 rintro e w1 ⟨rfl, h1⟩
 have H1 := Lib.hid (Laid.trans HL.out h1).below
 clear h1
 go_wp2_with fail
 go_loopw [3, 8] (fun sv i wr => ∃ k : Nat, k ≤ 65 ∧ i = .int .i64 (k : Int) ∧ RowsOwn 43 2 verV w (Vec.endsK v k) sv wr) (fun _ i _ => 65 - (intOf i).toNat)
 case atStart => exact ⟨0, Nat.zero_le _, rfl, RowsOwn.first H1.out⟩
 case round =>
  obtain ⟨k, hk, rfl, hr⟩ := hrel
  by_cases hlt : k < 65
  ·have hix := vec_index hlt (Vec.clean_get v hlt)
   have hk0 : (0 : Int) ≤ (k : Int) := by omega
   have hk1 : (k : Int) < 65 := by omega
   have Hk := Lib.hid hk
   by_cases hp : 0 < Vec.at_ v k
   ·have HE := Lib.hid (Vec.endsK_more v k hp)
    have Hlen := Lib.hid (Vec.endsK_len v k)
    generalize Vec.at_ v k = n at *
    have HR := Lib.hid hr
    have hown := hr.1.alloc (.cells #[.int .i64 (k : Int), .int .i64 n] 43)
    have Hmd := Lib.hid (ver_made wr 43 ⟨(k : Int), n⟩)
    have hsz : w.heap.size ≤ wr.heap.size := hr.2.size
    clear hr hk
    go_wp2_with (at_builtin; refine wp_joins (f := verV) (k := 2) rfl _ _ 24 rfl w.heap.size 43 i0 (.agg #[.int .i64 0, .int .i64 0]) 16 Try.underlying24 hi0 hz0 hz1 hz2 rfl (by decide) rfl rfl hown Hmd.out (fun _ _ => rfl) (fun x _ => ver_one x) ?c1 ?c2 ?c3 ?_; (case c1 => (have e1 := Hlen.out; have e2 := Hk.out; rw [show ([(⟨(k : Int), n⟩ : Ver.V)]).length = 1 from rfl]; unfold maxLen; omega)); (case c2 => (have e1 := Hlen.out; have e2 := Hk.out; rw [show ([(⟨(k : Int), n⟩ : Ver.V)]).length = 1 from rfl]; omega)); (case c3 => (simp; omega)); intro v2 w2 own2 hg2 _; have F2 := Lib.hid (HR.out.more (x := (⟨(k : Int), n⟩ : Ver.V)) (v' := v2) (by simpa [verV] using own2) hg2); clear own2 hg2)
    rw [← HE.out] at F2
    exact ⟨⟨k + 1, by omega, rfl, F2.out⟩, by show 65 - ((k : Int) + 1).toNat < 65 - (k : Int).toNat; omega⟩
   ·have hp' : Vec.at_ v k ≤ 0 := by omega
    rw [← Vec.endsK_same v k hp] at hr
    have HR := Lib.hid hr
    generalize Vec.at_ v k = n at *
    clear hr
    go_wp2_with fail
    exact ⟨⟨k + 1, by omega, rfl, HR.out⟩, by show 65 - ((k : Int) + 1).toNat < 65 - (k : Int).toNat; omega⟩
  ·obtain rfl : k = 65 := by omega
   have HR := Lib.hid hr
   clear hr
   go_wp2_with fail
   go_ret
   exact ⟨_, rfl, HR.out⟩
theorem vec_ok : VecOk where
 clean := fun hv => vec_clean _ hv
 ofl := fun h hl hb => vec_of h hl hb
 ends := fun hv => (vec_ends _ hv).mono (fun e w' h => by obtain ⟨s, e1, h⟩ := h; exact ⟨s, e1, h.rows (fun _ _ => rfl), h.2⟩)
open Go.RowKit Go.Sort
instance : Inhabited Ver.V := ⟨⟨0, 0⟩⟩
theorem set_vers : ∀ (l : List Ver.V) (i : Nat) (u : Ver.V), ((l.flatMap verV).set (i * 2) (.int .i64 u.by_)).set (i * 2 + 1) (.int .i64 u.n) = (l.set i u).flatMap verV
 | [], i, u => by simp
 | y :: l, 0, u => by simp [verV]
 | y :: l, i + 1, u => by
  have e : (i + 1) * 2 = i * 2 + 2 := by omega
  rw [e]
  have := set_vers l i u
  simp only [List.flatMap_cons, verV, List.cons_append, List.nil_append, List.set_cons_succ] at this ⊢
  rw [this]
theorem RowsOwn.putAt {w W : World} {l : List Ver.V} {g cap : Nat} (h : RowsOwn 43 2 verV w l (.slice (some ⟨g, 0, none⟩) l.length cap) W) (i : Nat) (u : Ver.V) :
  RowsOwn 43 2 verV w (l.set i u) (.slice (some ⟨g, 0, none⟩) l.length cap) ((W.setCell ⟨g, i * 2, none⟩ (.int .i64 u.by_)).setCell ⟨g, i * 2 + 1, none⟩ (.int .i64 u.n)) := by
 obtain ⟨h1, h2⟩ := h.1.stored (i * 2) (.int .i64 u.by_)
 obtain ⟨h3, h4⟩ := h1.stored (i * 2 + 1) (.int .i64 u.n)
 rw [set_vers] at h3
 refine ⟨by rw [List.length_set]; exact h3, h.2.grown (gb_trans h2 h4) h.2.size (fun k hk => ?_)⟩
 injection hk with hk
 rw [← hk]
 exact (h.1.lt g rfl).1
theorem zero_ver (w : World) : (zeroValue 43).run Try.prog w = .ok (.agg #[.int .i64 0, .int .i64 0]) w := by
 obtain ⟨i0, hi0, hz0, -, -⟩ := ver_parts verInfo
 simp [zeroValue, typeInfo, hi0, hz0]
theorem RowsOwn.cleared {w W : World} {l : List Ver.V} {g cap m n : Nat} (h : RowsOwn 43 2 verV w l (.slice (some ⟨g, 0, none⟩) n cap) W) (hn : l.length = n) (hm : m < n) (c : Nat) :
  ∃ w', (∀ ty, (Builtin.clear_ #[24] ty #[.slice (some ⟨g, m * 2, none⟩) (n - m) c]).run Try.prog W = .ok (.tuple #[]) w') ∧ RowsOwn 43 2 verV w (l.take m) (.slice (some ⟨g, 0, none⟩) m cap) w' := by
 subst hn
 obtain ⟨w', r1, r2, r3⟩ := own_clear (P := Try.prog) h.1 hm Try.underlying24 zero_ver rfl (by decide) c
 refine ⟨w', r1, ?_, h.2.grown r3 h.2.size (fun k hk => ?_)⟩
 ·have e : (l.flatMap verV).take (m * 2) = (l.take m).flatMap verV := by
   have hs : l.flatMap verV = (l.take m).flatMap verV ++ (l.drop m).flatMap verV := by rw [← List.flatMap_append, List.take_append_drop]
   rw [hs, List.take_left' (by rw [rows_len (k := 2) (f := verV) _ (fun _ _ => rfl), List.length_take]; omega)]
  rw [e] at r2
  have hl : (l.take m).length = m := by rw [List.length_take]; omega
  rw [hl]
  exact r2
 ·injection hk with hk
  rw [← hk]
  exact (h.1.lt g rfl).1
theorem compact_done {l dk : List Ver.V} {m kk : Nat} (hm : m = l.length) (hd : dk.length = l.length) (h : Lib.CompInv l.toArray m kk dk.toArray) : dk.take kk = Lib.compact l := by
 subst hm
 have hk := h.lt
 have hlen : (Lib.compact l).length = kk := h.len
 apply List.ext_getElem?
 intro j
 by_cases hj : j < kk
 ·rw [List.getElem?_take_of_lt hj]
  have := h.low j hj
  show dk[j]? = (Lib.compactUpTo l.toArray l.length)[j]?
  rw [this, ← getI_to dk.toArray (by simp; omega)]
 ·rw [List.getElem?_take_eq_none (by omega), List.getElem?_eq_none (by omega)]
theorem compact_few (l : List Ver.V) (h : l.length < 2) : Lib.compact l = l := Lib.compact_all l (fun j hj => Lib.keeps_lt_one _ j (by omega))
theorem ver_compact {w wr : World} {v : Value} {l : List Ver.V} (h : RowsOwn 43 2 verV w l v wr) (hl : l.length ≤ 1000000) :
  Calls Try.prog 73 #[v] wr fun e w' => ∃ v', e = .returned v' ∧ RowsOwn 43 2 verV w (Lib.compact l) v' w' := by
 by_cases h2 : l.length < 2
 ·have hfin := Lib.hid (compact_few l h2)
  obtain ⟨A, cap, rfl, hcap⟩ := (h.rows (fun _ _ => rfl)).parts
  have H := Lib.hid h
  have h2' : (l.length : Int) < 2 := by omega
  clear h
  go_enter Try.func73, Try.ntmps73
  go_wp2_with fail
  go_ret
  exact ⟨_, rfl, by rw [hfin.out]; exact H.out⟩
 ·obtain ⟨g, cap, rfl, hg0, hgl⟩ := h.1.form (by omega)
  have hcap : l.length ≤ cap := by
   obtain ⟨A, c, e, hc⟩ := (h.rows (fun _ _ => rfl)).parts
   injection e with e1 e2 e3
   omega
  have h2' : ¬ (l.length : Int) < 2 := by omega
  have hl' : (l.length : Int) ≤ 1000000 := by omega
  have hcap' : (l.length : Int) ≤ (cap : Int) := by omega
  have hwhole : Hid (Lib.compact l = Lib.compactUpTo l.toArray l.length) := Lib.hid rfl
  have H := Lib.hid h
  clear h
  go_enter Try.func73, Try.ntmps73
  go_wp2_with fail
  go_loopw [3] (fun i W => ∃ k : Nat, 1 ≤ k ∧ k ≤ l.length ∧ i = .int .i64 (k : Int) ∧ Hid (∀ j, j < k → Lib.keeps l.toArray j = true) ∧ Hid (RowsOwn 43 2 verV w l (.slice (some ⟨g, 0, none⟩) l.length cap) W)) (fun i _ => l.length - (intOf i).toNat)
  case atStart => exact ⟨1, Nat.le_refl _, by omega, by go_num, Lib.hid (Lib.keeps_lt_one _), H⟩
  case round =>
   obtain ⟨k, hk1, hk, rfl, hall, hown⟩ := hrel
   by_cases hlt : k < l.length
   ·obtain ⟨x, hx⟩ : ∃ x, l[k]? = some x := ⟨_, List.getElem?_eq_getElem hlt⟩
    obtain ⟨y, hy⟩ : ∃ y, l[k - 1]? = some y := ⟨_, List.getElem?_eq_getElem (by omega)⟩
    obtain ⟨c0, c1⟩ := Vrs.at (hown.out.rows (fun _ _ => rfl)) hx
    obtain ⟨d0, d1⟩ := Vrs.at (hown.out.rows (fun _ _ => rfl)) hy
    rw [Nat.zero_add] at c0 c1 d0 d1
    have hn1 : (k : Int) < (l.length : Int) := by omega
    have hk1' : (1 : Int) ≤ (k : Int) := by omega
    have KX : Hid (l.toArray[k]! = x ∧ l.toArray[k - 1]! = y) := Lib.hid ⟨getI_of hx, getI_of hy⟩
    by_cases hxy : x = y
    ·subst hxy
     have hneg : Hid (Lib.keeps l.toArray k = false) := Lib.hid (Lib.keeps_neg (by omega) (by rw [KX.out.1, KX.out.2]))
     have hst := Lib.hid (Lib.CompInv.start hall.out hneg.out)
     obtain ⟨x1, x2⟩ := x
     simp only at c0 c1 d0 d1
     clear hx hy hall hneg
     go_wp2_with fail
     go_quiet (fail)
     have hown2 : Hid (RowsOwn 43 2 verV w l (.slice (some ⟨g, 0, none⟩) l.length cap) (wr.drewN nq)) := Lib.hid (hown.out.below (ver_drews _ _))
     generalize wr.drewN nq = W at *
     clear c0 c1 d0 d1 hown
     go_wp2_with fail
     go_loopw [3, 5] (fun s3 s5 W2 => ∃ (kk k2 : Nat) (dk : List Ver.V), s3 = .int .i64 (kk : Int) ∧ s5 = .int .i64 (k2 : Int) ∧ 1 ≤ k2 ∧ k + k2 ≤ l.length ∧ kk < k + k2 ∧ dk.length = l.length ∧ Hid (Lib.CompInv l.toArray (k + k2) kk dk.toArray) ∧ Hid (RowsOwn 43 2 verV w dk (.slice (some ⟨g, 0, none⟩) dk.length cap) W2)) (fun _ s5 _ => l.length - (intOf s5).toNat)
     case atStart => exact ⟨k, 1, l, rfl, by go_num, Nat.le_refl _, by omega, by omega, rfl, hst, hown2⟩
     case round =>
      obtain ⟨kk, k2, dk, rfl, rfl, h1, hle, hkk, hdl, hI, hrow⟩ := hrel
      have hk2' : (1 : Int) ≤ (k2 : Int) := by omega
      by_cases hlt2 : k + k2 < l.length
      ·obtain ⟨x, hx⟩ : ∃ x, dk[k + k2]? = some x := ⟨_, List.getElem?_eq_getElem (by omega)⟩
       obtain ⟨y, hy⟩ : ∃ y, dk[k + k2 - 1]? = some y := ⟨_, List.getElem?_eq_getElem (by omega)⟩
       obtain ⟨z, hz⟩ : ∃ z, dk[kk]? = some z := ⟨_, List.getElem?_eq_getElem (by omega)⟩
       have CL : Hid (∀ U : World, Hid (RowsOwn 43 2 verV w dk (.slice (some ⟨g, 0, none⟩) dk.length cap) U) → (U.cell? ⟨g, k * 2 + k2 * 2, none⟩ = some (.int .i64 x.by_) ∧ U.cell? ⟨g, k * 2 + k2 * 2 + 1, none⟩ = some (.int .i64 x.n)) ∧ U.cell? ⟨g, k * 2 + (k2 - 1) * 2, none⟩ = some (.int .i64 y.by_) ∧ U.cell? ⟨g, k * 2 + (k2 - 1) * 2 + 1, none⟩ = some (.int .i64 y.n)) := Lib.hid (fun U hU => by
        have a := Vrs.at (hU.out.rows (fun _ _ => rfl)) hx
        have b := Vrs.at (hU.out.rows (fun _ _ => rfl)) hy
        rw [Nat.zero_add] at a b
        rw [show (k + k2) * 2 = k * 2 + k2 * 2 by omega] at a
        rw [show (k + k2 - 1) * 2 = k * 2 + (k2 - 1) * 2 by omega] at b
        exact ⟨a, b⟩)
       have CZ : Hid (∀ U : World, Hid (RowsOwn 43 2 verV w dk (.slice (some ⟨g, 0, none⟩) dk.length cap) U) → (U.cell? ⟨g, kk * 2, none⟩ = some (.int .i64 z.by_) ∧ U.cell? ⟨g, kk * 2 + 1, none⟩ = some (.int .i64 z.n)) ∧ U.frozen? ⟨g, kk * 2, none⟩ = false ∧ U.frozen? ⟨g, kk * 2 + 1, none⟩ = false) := Lib.hid (fun U hU => by
        have a := Vrs.at (hU.out.rows (fun _ _ => rfl)) hz
        rw [Nat.zero_add] at a
        exact ⟨a, hU.out.1.frozenAt _, hU.out.1.frozenAt _⟩)
       have KX : Hid (l.toArray[k + k2]! = x ∧ l.toArray[k + k2 - 1]! = y) := Lib.hid ⟨(hI.out.high _ (by omega)).symm.trans (getI_of hx), (hI.out.high _ (by omega)).symm.trans (getI_of hy)⟩
       obtain ⟨⟨c0, c1⟩, d0, d1⟩ := CL.out _ hrow
       have hn1 : (k2 : Int) < (l.length : Int) - (k : Int) := by omega
       have hn2 : (k2 : Int) - 1 < (l.length : Int) - (k : Int) := by omega
       have hkl : (kk : Int) < (l.length : Int) := by omega
       have hkk0 : (0 : Int) ≤ (kk : Int) := by omega
       clear hx hy hz
       by_cases hxy : x = y
       ·subst hxy
        have hneg : Hid (Lib.keeps l.toArray (k + k2) = false) := Lib.hid (Lib.keeps_neg (by omega) (by rw [KX.out.1, KX.out.2]))
        have hnext : Hid (Lib.CompInv l.toArray (k + (k2 + 1)) kk dk.toArray) := Lib.hid (hI.out.skip hneg.out)
        obtain ⟨x1, x2⟩ := x
        simp only at c0 c1 d0 d1
        clear hneg
        go_wp2_with fail
        go_quiet (fail)
        have hrow2 : Hid (RowsOwn 43 2 verV w dk (.slice (some ⟨g, 0, none⟩) dk.length cap) (wr.drewN nq)) := Lib.hid (hrow.out.below (ver_drews _ _))
        go_wp2_with fail
        exact ⟨⟨kk, k2 + 1, dk, rfl, by go_num, by omega, by omega, by omega, hdl, hnext, hrow2⟩, by show l.length - ((k2 : Int) + 1).toNat < l.length - (k2 : Int).toNat; omega⟩
       ·have hpos : Hid (Lib.keeps l.toArray (k + k2) = true) := Lib.hid (Lib.keeps_pos (by rw [KX.out.1, KX.out.2]; exact hxy))
        have hnext : Hid (Lib.CompInv l.toArray (k + (k2 + 1)) (kk + 1) (dk.set kk x).toArray) := Lib.hid (by
         have := hI.out.keep (by simpa using hlt2) hpos.out
         rw [KX.out.1, List.setIfInBounds_toArray] at this
         exact this)
        have hset : Hid (∀ U, RowsOwn 43 2 verV w dk (.slice (some ⟨g, 0, none⟩) dk.length cap) U → Hid (RowsOwn 43 2 verV w (dk.set kk x) (.slice (some ⟨g, 0, none⟩) (dk.set kk x).length cap) ((U.setCell ⟨g, kk * 2, none⟩ (.int .i64 x.by_)).setCell ⟨g, kk * 2 + 1, none⟩ (.int .i64 x.n)))) := Lib.hid (fun U hU => Lib.hid (by rw [List.length_set]; exact hU.putAt kk x))
        obtain ⟨x1, x2⟩ := x
        obtain ⟨y1, y2⟩ := y
        obtain ⟨z1, z2⟩ := z
        simp only at c0 c1 d0 d1
        have hxy' : x1 = y1 → ¬ x2 = y2 := fun h k => hxy (by rw [h, k])
        clear hpos hxy KX
        by_cases h1' : x1 = y1
        ·have h2' := hxy' h1'
         subst h1'
         clear hxy'
         go_wp2_with fail
         go_quiet (fail)
         have hrow2 : Hid (RowsOwn 43 2 verV w dk (.slice (some ⟨g, 0, none⟩) dk.length cap) (wr.drewN nq)) := Lib.hid (hrow.out.below (ver_drews _ _))
         generalize wr.drewN nq = W at *
         clear c0 c1 d0 d1
         obtain ⟨⟨c0, c1⟩, -, -⟩ := CL.out _ hrow2
         obtain ⟨⟨e0, e1⟩, f0, f1⟩ := CZ.out _ hrow2
         have HS := hset.out _ hrow2.out
         have e1' : ∀ u, (W.setCell ⟨g, kk * 2, none⟩ u).cell? ⟨g, kk * 2 + 1, none⟩ = some (.int .i64 z2) := fun u => (World.cell?_setCell_other _ _ _ _ (by simp)).trans e1
         have f1' : ∀ u, (W.setCell ⟨g, kk * 2, none⟩ u).frozen? ⟨g, kk * 2 + 1, none⟩ = false := fun u => (World.frozen?_setCell _ _ _ _).trans f1
         go_wp2_with fail
         exact ⟨⟨kk + 1, k2 + 1, _, by go_num, by go_num, by omega, by omega, by omega, by rw [List.length_set]; exact hdl, hnext, HS⟩, by show l.length - ((k2 : Int) + 1).toNat < l.length - (k2 : Int).toNat; omega⟩
        ·clear hxy'
         go_wp2_with fail
         go_quiet (fail)
         have hrow2 : Hid (RowsOwn 43 2 verV w dk (.slice (some ⟨g, 0, none⟩) dk.length cap) (wr.drewN nq)) := Lib.hid (hrow.out.below (ver_drews _ _))
         generalize wr.drewN nq = W at *
         clear c0 c1 d0 d1
         obtain ⟨⟨c0, c1⟩, -, -⟩ := CL.out _ hrow2
         obtain ⟨⟨e0, e1⟩, f0, f1⟩ := CZ.out _ hrow2
         have HS := hset.out _ hrow2.out
         have e1' : ∀ u, (W.setCell ⟨g, kk * 2, none⟩ u).cell? ⟨g, kk * 2 + 1, none⟩ = some (.int .i64 z2) := fun u => (World.cell?_setCell_other _ _ _ _ (by simp)).trans e1
         have f1' : ∀ u, (W.setCell ⟨g, kk * 2, none⟩ u).frozen? ⟨g, kk * 2 + 1, none⟩ = false := fun u => (World.frozen?_setCell _ _ _ _).trans f1
         go_wp2_with fail
         exact ⟨⟨kk + 1, k2 + 1, _, by go_num, by go_num, by omega, by omega, by omega, by rw [List.length_set]; exact hdl, hnext, HS⟩, by show l.length - ((k2 : Int) + 1).toNat < l.length - (k2 : Int).toNat; omega⟩
      ·have hend : k + k2 = l.length := by omega
       have hm : kk < l.length := by omega
       obtain ⟨W', hcl, hout⟩ := RowsOwn.cleared (n := l.length) (m := kk) (by have := hrow.out; rwa [hdl] at this) hdl hm (cap - kk)
       have hfin : Hid (dk.take kk = Lib.compact l) := Lib.hid (compact_done hend hdl hI.out)
       have HO := Lib.hid hout
       have hkl : (kk : Int) < (l.length : Int) := by omega
       have hkk0 : (0 : Int) ≤ (kk : Int) := by omega
       have hkc : (kk : Int) ≤ (cap : Int) := by omega
       clear hout
       go_wp2_with fail
       go_ret
       exact ⟨_, rfl, by rw [← hfin.out]; exact HO.out⟩
    ·have hpos : Hid (∀ j, j < k + 1 → Lib.keeps l.toArray j = true) := Lib.hid (fun j hj => by
      by_cases e : j = k
      ·subst e
       exact Lib.keeps_pos (by rw [KX.out.1, KX.out.2]; exact hxy)
      ·exact hall.out j (by omega))
     obtain ⟨x1, x2⟩ := x
     obtain ⟨y1, y2⟩ := y
     simp only at c0 c1 d0 d1
     have hxy' : x1 = y1 → ¬ x2 = y2 := fun h k => hxy (by rw [h, k])
     clear hx hy hall hxy KX
     by_cases h1 : x1 = y1
     ·have h2 := hxy' h1
      subst h1
      clear hxy'
      go_wp2_with fail
      go_quiet (fail)
      go_wp2_with fail
      exact ⟨⟨k + 1, by omega, by omega, by go_num, hpos, Lib.hid (hown.out.below (ver_drews _ _))⟩, by show l.length - ((k : Int) + 1).toNat < l.length - (k : Int).toNat; omega⟩
     ·clear hxy'
      go_wp2_with fail
      go_quiet (fail)
      go_wp2_with fail
      exact ⟨⟨k + 1, by omega, by omega, by go_num, hpos, Lib.hid (hown.out.below (ver_drews _ _))⟩, by show l.length - ((k : Int) + 1).toNat < l.length - (k : Int).toNat; omega⟩
   ·obtain rfl : k = l.length := by omega
    have hfin : Hid (Lib.compact l = l) := Lib.hid (Lib.compact_all l hall.out)
    clear hall
    go_wp2_with fail
    go_ret
    exact ⟨_, rfl, by rw [hfin.out]; exact hown.out⟩
end Go.Proofs.Ytpafpegcodempaa
namespace Go.Proofs
open Go.Shelf
open Go.RowKit in
def Try.sortVr_ren : Go.Shelf.Ren := ⟨fun | 6 => 71 | 15 => 76 | 14 => 75 | 28 => 87 | 29 => 88 | 20 => 79 | 21 => 80 | 22 => 81 | 23 => 82 | 24 => 83 | 25 => 84 | 26 => 85 | 27 => 86 | 46 => 89 | 47 => 90 | 48 => 91 | 49 => 92 | 50 => 93 | 57 => 94 | n => n, fun | 22 => 24 | 24 => 43 | 25 => 100 | 3 => 3 | 39 => 102 | 0 => 0 | 53 => 114 | 55 => 116 | 4 => 4 | 46 => 107 | 45 => 106 | 50 => 111 | 5 => 5 | 9 => 9 | 66 => 118 | 70 => 122 | 76 => 124 | 77 => 125 | n => n, fun | n => n⟩
theorem Try.sortVr : Go.Proofs.SlLaysF0.n6 Try.prog Try.sortVr_ren := {
 mixed := by kernel_rfl
 f6 := ⟨Try.f71.name, by decide, Try.func71.trans (congrArg some (by kernel_rfl))⟩
 f14 := ⟨Try.f75.name, by decide, Try.func75.trans (congrArg some (by kernel_rfl))⟩
 f15 := Try.func76.trans (congrArg some (by kernel_rfl))
 f20 := ⟨Try.f79.name, by decide, Try.func79.trans (congrArg some (by kernel_rfl))⟩
 f21 := ⟨Try.f80.name, by decide, Try.func80.trans (congrArg some (by kernel_rfl))⟩
 f22 := ⟨Try.f81.name, by decide, Try.func81.trans (congrArg some (by kernel_rfl))⟩
 f23 := ⟨Try.f82.name, by decide, Try.func82.trans (congrArg some (by kernel_rfl))⟩
 f24 := ⟨Try.f83.name, by decide, Try.func83.trans (congrArg some (by kernel_rfl))⟩
 f25 := ⟨Try.f84.name, by decide, Try.func84.trans (congrArg some (by kernel_rfl))⟩
 f26 := ⟨Try.f85.name, by decide, Try.func85.trans (congrArg some (by kernel_rfl))⟩
 f27 := ⟨Try.f86.name, by decide, Try.func86.trans (congrArg some (by kernel_rfl))⟩
 f28 := Try.func87.trans (congrArg some (by kernel_rfl))
 f29 := Try.func88.trans (congrArg some (by kernel_rfl))
 f46 := ⟨Try.f89.name, by decide, Try.func89.trans (congrArg some (by kernel_rfl))⟩
 f47 := Try.func90.trans (congrArg some (by kernel_rfl))
 f48 := Try.func91.trans (congrArg some (by kernel_rfl))
 f49 := ⟨Try.f92.name, by decide, Try.func92.trans (congrArg some (by kernel_rfl))⟩
 f50 := ⟨Try.f93.name, by decide, Try.func93.trans (congrArg some (by kernel_rfl))⟩
 f57 := ⟨Try.f94.name, by decide, Try.func94.trans (congrArg some (by kernel_rfl))⟩
 t0 := Try.underlying0
 a0 := Try.isAgg0
 z0 := Try.sizeOf0
 v0 := Try.zeroValue0
 t3 := Try.underlying3
 a3 := Try.isAgg3
 z3 := Try.sizeOf3
 v3 := Try.zeroValue3
 t4 := Try.underlying4
 a4 := Try.isAgg4
 z4 := Try.sizeOf4
 v4 := Try.zeroValue4
 t5 := Try.underlying5
 a5 := Try.isAgg5
 z5 := Try.sizeOf5
 v5 := Try.zeroValue5
 t9 := Try.underlying9
 a9 := Try.isAgg9
 z9 := Try.sizeOf9
 v9 := Try.zeroValue9
 t22 := Try.underlying24
 a22 := Try.isAgg24
 z22 := Try.sizeOf24
 v22 := Try.zeroValue24
 t25 := Try.underlying100
 a25 := Try.isAgg100
 z25 := Try.sizeOf100
 v25 := Try.zeroValue100
 t39 := Try.underlying102
 a39 := Try.isAgg102
 z39 := Try.sizeOf102
 v39 := Try.zeroValue102
 t45 := Try.underlying106
 a45 := Try.isAgg106
 z45 := Try.sizeOf106
 v45 := Try.zeroValue106
 t46 := Try.underlying107
 a46 := Try.isAgg107
 z46 := Try.sizeOf107
 v46 := Try.zeroValue107
 t50 := Try.underlying111
 a50 := Try.isAgg111
 z50 := Try.sizeOf111
 v50 := Try.zeroValue111
 t53 := Try.underlying114
 a53 := Try.isAgg114
 z53 := Try.sizeOf114
 v53 := Try.zeroValue114
 t55 := Try.underlying116
 a55 := Try.isAgg116
 z55 := Try.sizeOf116
 v55 := Try.zeroValue116
 t66 := Try.underlying118
 a66 := Try.isAgg118
 z66 := Try.sizeOf118
 v66 := Try.zeroValue118
 t70 := Try.underlying122
 a70 := Try.isAgg122
 z70 := Try.sizeOf122
 v70 := Try.zeroValue122
 t76 := Try.underlying124
 a76 := Try.isAgg124
 z76 := Try.sizeOf124
 v76 := Try.zeroValue124
 t77 := Try.underlying125
 a77 := Try.isAgg125
 z77 := Try.sizeOf125
 v77 := Try.zeroValue125 }
end Go.Proofs
namespace Go.Proofs.Ytpafpegcodempaa
open Go.RowKit Go.Sort
theorem ver_before (w : World) (a b : Ver.V) : Calls Try.prog 77 #[verA a, verA b] w fun e w' => e = .returned (.bool (decide (Ver.Before a b))) ∧ Laid w w' := by
 have L := Lib.hid (laid_two w)
 obtain ⟨x, y⟩ := a
 obtain ⟨x', y'⟩ := b
 have E := Lib.hid (show decide (Ver.Before ⟨x, y⟩ ⟨x', y'⟩) = _ from before_alt x y x' y')
 by_cases h1 : x < x'
 ·go_enter Try.func77, Try.ntmps77
  go_wp2_with fail
  go_ret
  exact ⟨by rw [E.out]; first | (simp [h1]; done) | (simp [h1]; omega), L.out _ _⟩
 ·by_cases h2 : x = x'
  ·subst h2
   go_enter Try.func77, Try.ntmps77
   go_wp2_with fail
   go_ret
   exact ⟨by rw [E.out]; first | (simp [h1]; done) | (simp [h1]; omega), L.out _ _⟩
  ·go_enter Try.func77, Try.ntmps77
   go_wp2_with fail
   go_ret
   exact ⟨by rw [E.out]; first | (simp [h1, h2]; done) | (simp [h1, h2]; omega), L.out _ _⟩
def Ver.order (a b : Ver.V) : Int := if a = b then 0 else if Ver.Before a b then -1 else 1
theorem ver_order (w : World) (a b : Ver.V) : Calls Try.prog 72 #[verA a, verA b] w fun e w' => e = .returned (.int .i64 (Ver.order a b)) ∧ Laid w w' := by
 have L := Lib.hid (laid_two w)
 have BE := Lib.hid (fun W => ver_before W a b)
 by_cases h0 : a = b
 ·subst h0
  have E : Hid (Ver.order a a = 0) := Lib.hid (by unfold Ver.order; rw [if_pos rfl])
  obtain ⟨x, y⟩ := a
  go_enter Try.func72, Try.ntmps72
  go_wp2_with fail
  go_ret
  exact ⟨by rw [E.out]; rfl, L.out _ _⟩
 ·have hne : a.by_ = b.by_ → ¬ a.n = b.n := fun h k => h0 (Ver.v_ext h k)
  have main : ∀ r : Bool, r = decide (Ver.Before a b) → Ver.order a b = (if r then -1 else 1) → Calls Try.prog 72 #[verA a, verA b] w fun e w' => e = .returned (.int .i64 (Ver.order a b)) ∧ Laid w w' := by
   intro r hr hE
   have BE : Hid (∀ W, Calls Try.prog 77 #[verA a, verA b] W fun e w' => e = .returned (.bool r) ∧ Laid W w') := Lib.hid (fun W => by have := BE.out W; rwa [← hr] at this)
   have E := Lib.hid hE
   obtain ⟨x, y⟩ := a
   obtain ⟨x', y'⟩ := b
   simp only at hne
   clear hE hr h0
   by_cases h1 : x = x'
   ·have h2 := hne h1
    subst h1
    clear hne
    cases r
    all_goals
     go_enter Try.func72, Try.ntmps72
     go_wp2_with (go_at_call 77; refine (BE.out _).mono ?_; rintro e w1 ⟨rfl, hl⟩; have HL := Lib.hid ((L.out _ _).trans hl); clear hl)
     go_ret
     exact ⟨by rw [E.out]; rfl, HL.out⟩
   ·clear hne
    cases r
    all_goals
     go_enter Try.func72, Try.ntmps72
     go_wp2_with (go_at_call 77; refine (BE.out _).mono ?_; rintro e w1 ⟨rfl, hl⟩; have HL := Lib.hid ((L.out _ _).trans hl); clear hl)
     go_ret
     exact ⟨by rw [E.out]; rfl, HL.out⟩
  by_cases hb : Ver.Before a b
  ·exact main true (decide_eq_true hb).symm (by unfold Ver.order; rw [if_neg h0, if_pos hb, if_pos rfl])
  ·exact main false (decide_eq_false hb).symm (by unfold Ver.order; rw [if_neg h0, if_neg hb, if_neg (by decide)])
open Go.RowKit Go.Sort
section
variable {α : Type} [Inhabited α] {enc : α → List Value} {k : Nat}
theorem flat_list (hk : ∀ x, (enc x).length = k) (h0 : 0 < k) (d : Array α) : (flatK enc k d).toList = d.toList.flatMap enc := by
 apply List.ext_getElem?
 intro j
 by_cases hj : j < d.size * k
 ·have hq : j / k < d.size := Nat.div_lt_of_lt_mul (by rwa [Nat.mul_comm])
  have hr : j % k < k := Nat.mod_lt _ h0
  have e := get_flatK enc k d j hj
  have hs : j < (flatK enc k d).size := by rw [size_flatK]; exact hj
  rw [Array.getElem?_toList, Array.getElem?_eq_getElem hs, ← getElem!_pos (flatK enc k d) j hs, e]
  have hx : d.toList[j / k]? = some d[j / k]! := by rw [Array.getElem?_toList, Array.getElem?_eq_getElem hq, getElem!_pos d _ hq]
  have hl : j % k < (enc d[j / k]!).length := by rw [hk]; exact hr
  have hu : (enc d[j / k]!)[j % k]? = some (enc d[j / k]!)[j % k]! := by rw [List.getElem?_eq_getElem hl, getElem!_pos (enc d[j / k]!) _ hl]
  have h1 := rows_at d.toList (fun x _ => hk x) (j / k) _ hx (j % k) _ hu
  rw [← h1]
  congr 1
  exact Nat.div_add_mod' j k
 ·have h2 := rows_len d.toList (fun x _ => hk x)
  rw [List.getElem?_eq_none (by simp; omega), List.getElem?_eq_none (by rw [h2]; simp; omega)]
theorem own_holds (hk : ∀ x, (enc x).length = k) (h0 : 0 < k) {w : World} {base t n g cap : Nat} {l : List α} (h : w.ownsRow base t k (.slice (some ⟨g, 0, none⟩) n cap) n (l.flatMap enc)) : HoldsK enc k w g 0 l.toArray := by
 intro j hj
 rw [size_flatK] at hj
 have hl : l.length * k = n * k := by rw [← rows_len l (fun x _ => hk x)]; exact h.1
 have hj2 : j < n * k := by rw [← hl]; simpa using hj
 refine ⟨?_, ?_⟩
 ·rw [Nat.zero_add, h.cellAt j hj2]
  have hs : j < (flatK enc k l.toArray).size := by rw [size_flatK]; exact hj
  have e : (flatK enc k l.toArray).toList[j]? = some (flatK enc k l.toArray)[j]! := by rw [Array.getElem?_toList, Array.getElem?_eq_getElem hs, getElem!_pos (flatK enc k l.toArray) j hs]
  rw [flat_list hk h0] at e
  exact e
 ·rw [Nat.zero_add]
  exact h.frozenAt j
theorem heap_sortK {w : World} {g n : Nat} {os : Array Obj} {cur : Array Value} {e : TypeId} {fr : Nat × Nat} (d : Array α) (hb : w.heap[g]? = some (.cells cur e fr)) :
  (Go.Proofs.sortWorldK enc k w g 0 n d os).heap[g]? = some (.cells (putCells id 0 (flatK enc k d) cur) e fr) := by
 have hg : g < w.heap.size := (Array.getElem?_eq_some_iff.1 hb).1
 unfold Go.Proofs.sortWorldK putRowK
 rw [heap_grow_old _ _ (by simpa using hg)]
 simp [putRow, mapBlock, Sort.ahead, Array.getElem?_modify, hb, onCells]
theorem grown_sortK {w : World} {g n : Nat} {os : Array Obj} (d : Array α) : w.grownBy (Go.Proofs.sortWorldK enc k w g 0 n d os) (some g) := by
 unfold Go.Proofs.sortWorldK putRowK
 refine ⟨rfl, rfl, rfl, by simp, fun j hj hne => ?_⟩
 rw [heap_grow_old _ _ (by simpa using hj)]
 have : g ≠ j := fun e => hne (by rw [e])
 simp [putRow, mapBlock, Sort.ahead, Array.getElem?_modify, this]
theorem take_put (cur F : Array Value) (h : F.size ≤ cur.size) : (putCells id 0 F cur).toList.take F.size = F.toList := by
 apply List.ext_getElem?
 intro j
 by_cases hj : j < F.size
 ·rw [List.getElem?_take_of_lt hj, Array.getElem?_toList]
  simp [putCells, hj, show j < cur.size by omega]
 ·rw [List.getElem?_take_eq_none (by omega), List.getElem?_eq_none (by simpa using hj)]
theorem own_sorted (hk : ∀ x, (enc x).length = k) (h0 : 0 < k) {w : World} {base t n m g cap : Nat} {l : List α} {d : Array α} {os : Array Obj} (h : w.ownsRow base t k (.slice (some ⟨g, 0, none⟩) n cap) n (l.flatMap enc)) (hd : d.size = n) :
  (Go.Proofs.sortWorldK enc k w g 0 m d os).ownsRow base t k (.slice (some ⟨g, 0, none⟩) n cap) n (d.toList.flatMap enc) := by
 refine ⟨by rw [rows_len d.toList (fun x _ => hk x)]; simp [hd], ?_⟩
 rcases h.2 with ⟨e, -⟩ | ⟨g2, cap2, cur, e, hb, hg, hc, hm, hs, ht⟩
 ·cases e
 ·injection e with e1 e2 e3
  injection e1 with e1
  injection e1 with e1
  subst e1 e3
  refine .inr ⟨g, cap, _, rfl, hb, heap_sortK d hg, hc, hm, by simp [putCells, hs], ?_⟩
  have hf : (flatK enc k d).size = n * k := by rw [size_flatK, hd]
  rw [← hf, take_put cur _ (by rw [hf, hs]; exact Nat.mul_le_mul_right _ hc), flat_list hk h0]
theorem RowsOwn.sorted (hk : ∀ x, (enc x).length = k) (h0 : 0 < k) {w wr : World} {t m g cap : Nat} {l : List α} {d : Array α} {os : Array Obj} (h : RowsOwn t k enc w l (.slice (some ⟨g, 0, none⟩) l.length cap) wr) (hd : d.size = l.length) :
  RowsOwn t k enc w d.toList (.slice (some ⟨g, 0, none⟩) l.length cap) (Go.Proofs.sortWorldK enc k wr g 0 m d os) := by
 have hg := h.1.lt g rfl
 refine ⟨?_, h.2.grown (grown_sortK d) h.2.size (fun j hj => by injection hj with hj; omega)⟩
 have h1 := own_sorted (m := m) (os := os) hk h0 h.1 hd
 have e : d.toList.length = l.length := by simpa using hd
 rw [e]
 exact h1
theorem perm_list {l : List α} {d : Array α} (h : PermIn 0 l.toArray.size l.toArray d) : d.toList.Perm l ∧ d.size = l.length := by
 obtain ⟨h1, -, h3⟩ := h
 have hs : d.size = l.length := by simpa using h1
 refine ⟨?_, hs⟩
 have e1 : d.extract 0 l.toArray.size = d := by rw [← h1]; exact Array.extract_size
 have e2 : l.toArray.extract 0 l.toArray.size = l.toArray := Array.extract_size
 rw [e1, e2] at h3
 exact h3
end
open Go.RowKit Go.Shelf Go.Lib Go.Sort
theorem lt_order (x y : Ver.V) : ltOf Ver.order x y = decide (Ver.Before x y) := by
 unfold ltOf Ver.order
 by_cases h : x = y
 ·subst h; simp [Ver.before_irrefl]
 ·by_cases h2 : Ver.Before x y <;> simp [h, h2]
theorem swo_order : SWO (ltOf Ver.order) where
 irrefl x := by rw [lt_order]; exact decide_eq_false (Ver.before_irrefl x)
 trans x y z h1 h2 := by
  rw [lt_order] at *
  exact decide_eq_true (Ver.before_trans (of_decide_eq_true h1) (of_decide_eq_true h2))
 ntrans x y z h1 h2 := by
  rw [lt_order] at *
  have k1 := of_decide_eq_false h1
  have k2 := of_decide_eq_false h2
  exact decide_eq_false (by unfold Ver.Before at *; omega)
theorem compact_sort {S : List Ver.V} (h : ∀ (i j : Nat) (x y : Ver.V), i < j → S[i]? = some x → S[j]? = some y → ¬ Ver.Before y x) : Ver.Up (Lib.compact S) ∧ ∀ x, x ∈ Lib.compact S ↔ x ∈ S := by
 have at_ : ∀ i, i < S.length → S[i]? = some S.toArray[i]! := fun i hi => by
  have := getI_to S.toArray (i := i) (by simpa using hi)
  simpa using this
 constructor
 ·unfold Ver.Up Lib.compact Lib.compactUpTo
  rw [List.pairwise_map]
  have hr : List.Pairwise (fun a b => a < b ∧ b < S.length) (List.range S.length) := by
   have h1 : List.Pairwise (fun a b : Nat => a < b) (List.range S.length) := List.pairwise_lt_range
   refine List.Pairwise.imp_of_mem (fun {a b} ha hb hab => ⟨hab, List.mem_range.1 hb⟩) h1
  have hf := hr.filter (Lib.keeps S.toArray)
  refine List.Pairwise.imp_of_mem (fun {a b} ha hb hab => ?_) hf
  obtain ⟨hab, hbl⟩ := hab
  have hk := (List.mem_filter.1 hb).2
  have hne : S.toArray[b]! ≠ S.toArray[b - 1]! := by
   have := of_decide_eq_true hk
   rcases this with h0 | h0
   ·omega
   ·exact h0
  have q1 := h (b - 1) b _ _ (by omega) (at_ _ (by omega)) (at_ _ hbl)
  have q2 := h a b _ _ hab (at_ _ (by omega)) (at_ _ hbl)
  by_cases e : S.toArray[a]! = S.toArray[b]!
  ·exfalso
   have q3 : ¬ Ver.Before S.toArray[b - 1]! S.toArray[b]! := by
    rcases Nat.lt_or_ge a (b - 1) with hlt | hge
    ·have := h a (b - 1) _ _ hlt (at_ _ (by omega)) (at_ _ (by omega))
     rwa [e] at this
    ·have : a = b - 1 := by omega
     subst this
     rw [e]; exact Ver.before_irrefl _
   rcases Ver.before_or hne with k | k
   ·exact q1 k
   ·exact q3 k
  ·exact (Ver.before_or e).resolve_right q2
 ·intro x
  unfold Lib.compact Lib.compactUpTo
  rw [List.mem_map]
  constructor
  ·rintro ⟨i, hi, rfl⟩
   have hi := List.mem_range.1 (List.mem_filter.1 hi).1
   exact List.mem_of_getElem? (at_ i hi)
  ·intro hx
   obtain ⟨i, hi⟩ := List.getElem?_of_mem hx
   have hil : i < S.length := (List.getElem?_eq_some_iff.1 hi).1
   have hxi : S.toArray[i]! = x := getI_of hi
   clear hi
   induction i with
   | zero => exact ⟨0, List.mem_filter.2 ⟨List.mem_range.2 hil, Lib.keeps_lt_one _ 0 (by omega)⟩, hxi⟩
   | succ i ih =>
    by_cases hk : S.toArray[i + 1]! = S.toArray[i]!
    ·exact ih (by omega) (by rw [← hxi, hk])
    ·exact ⟨i + 1, List.mem_filter.2 ⟨List.mem_range.2 hil, Lib.keeps_pos (by simpa using hk)⟩, hxi⟩
theorem ver_clone {w : World} {F : Nat → Prop} {v : Value} {l : List Ver.V} (h : Vrs w F v l) (hl : l.length ≤ 1000000) :
  Calls Try.prog 70 #[v] w fun e w' => ∃ v', e = .returned v' ∧ RowsOwn 43 2 verV w l v' w' := by
 obtain ⟨i0, hi0, hz0, hz1, hz2⟩ := ver_parts verInfo
 have hb0 : Below w.heap.size w (w.alloc (.cells #[] 43)) := (Below.refl _ _).alloc (Nat.le_refl _) _
 have hr := h.below hb0
 have h0own : (w.alloc (.cells #[] 43)).ownsRow w.heap.size 43 2 (.slice (some ⟨w.heap.size, 0, none⟩) 0 0) 0 [] := World.ownsRow_made w #[] 0 (Nat.le_refl _) (by decide) rfl
 obtain ⟨A, cap, rfl, hcap, hat⟩ := h
 have q22 : ∀ (w : World) (a : Option Addr) (n c n' c' : Nat), (binOp .eql 24 (.slice a n c) (.slice none n' c')).run Try.prog w = .ok (.bool a.isNone) w := fun w a n c n' c' => Lib.run_eql_slice_nil w _ _ a n c n' c' Try.underlying24
 cases A with
 | none =>
  have h0 : l.length = 0 := Nat.eq_zero_of_not_pos (fun hp => by obtain ⟨b, o, e, -⟩ := hat hp; cases e)
  have hf : l = [] := List.eq_nil_of_length_eq_zero h0
  subst hf
  clear hr hat
  go_enter Try.func70, Try.ntmps70
  go_wp2_with fail
  go_ret
  exact ⟨_, rfl, RowsOwn.start _ _ _ w⟩
 | some ad =>
  clear hat
  go_enter Try.func70, Try.ntmps70
  go_wp2_with (at_builtin; refine wp_joins (f := verV) (k := 2) rfl _ _ 24 rfl w.heap.size 43 i0 (.agg #[.int .i64 0, .int .i64 0]) 16 Try.underlying24 hi0 hz0 hz1 hz2 rfl (by decide) rfl rfl h0own hr (fun _ _ => rfl) (fun x _ => ver_one x) ?a1 ?a2 ?a3 ?_)
  case a1 => unfold maxLen; omega
  case a2 => omega
  case a3 => simp
  intro v2 w2 own2 hg2 _
  have F2 := Lib.hid (RowsOwn.front (l := l) (f := verV) (k := 2) (t := 43) hg2 (by rw [Nat.zero_add, List.nil_append]; exact own2))
  clear own2 hg2 hr h0own
  go_wp2_with fail
  go_ret
  exact ⟨_, rfl, F2.out⟩
theorem ver_sortfn {w wr : World} {v : Value} {l : List Ver.V} (h : RowsOwn 43 2 verV w l v wr) (hl : l.length ≤ 1000000) :
  Calls Try.prog 71 #[v, .func (.func 72) #[] #[]] wr fun e w' => e = .returned (.tuple #[]) ∧ ∃ S : List Ver.V, RowsOwn 43 2 verV w S v w' ∧ S.Perm l ∧ ∀ (i j : Nat) (x y : Ver.V), i < j → S[i]? = some x → S[j]? = some y → ¬ Ver.Before y x := by
 rcases Nat.eq_zero_or_pos l.length with h0 | h0
 ·have hl0 : l = [] := List.eq_nil_of_length_eq_zero h0
  subst hl0
  obtain ⟨A, cap, e, -⟩ := (h.rows (fun _ _ => rfl)).parts
  rw [List.length_nil] at e
  subst e
  refine (AnyF.slices_SortFunc_none (P := Try.prog) (ρ := Try.sortVr_ren) { Try.sortVr with } A cap _ wr).mono ?_
  rintro e w' ⟨rfl, rfl⟩
  exact ⟨rfl, [], h, List.Perm.refl _, fun i j x y _ hx _ => by simp at hx⟩
 ·obtain ⟨g, cap, rfl, hg0, hgl⟩ := h.1.form (by omega)
  have eg : ∀ args w, (callFunc 72 args).run Try.prog w = .ok (.enter 72 args) w := enters_of Try.func72 (by kernel_rfl) rfl
  have hcon := AnyQ.slices_SortFunc Try.sortVr 2 Try.isAgg43 Try.sizeOf43 verV ver_len ver_one Ver.order swo_order 72 #[] g 0 cap l.toArray wr eg (fun _ _ _ _ x y => ver_order _ x y) (own_holds ver_len (by decide) h.1) hgl (by simp; omega)
  refine hcon.mono ?_
  rintro e w' ⟨rfl, d, n, os, hp, hs, rfl⟩
  obtain ⟨hperm, hsz⟩ := perm_list hp
  refine ⟨rfl, d.toList, h.sorted ver_len (by decide) hsz, hperm, fun i j x y hij hx hy => ?_⟩
  rw [Array.getElem?_toList] at hx hy
  obtain ⟨hi, ex⟩ := Array.getElem?_eq_some_iff.1 hx
  obtain ⟨hj, ey⟩ := Array.getElem?_eq_some_iff.1 hy
  have hlt := hs i j (Nat.zero_le _) hij (by simpa [hsz] using hj)
  rw [lt_order, getElem!_pos d i hi, getElem!_pos d j hj, ex, ey] at hlt
  exact of_decide_eq_false hlt
theorem ver_sort {w : World} {F : Nat → Prop} {v : Value} {l : List Ver.V} (h : Vrs w F v l) (hl : l.length ≤ 1000000) :
  Calls Try.prog 58 #[v] w fun e w' => ∃ v', e = .returned v' ∧ RowsOwn 43 2 verV w (Ver.sort l) v' w' := by
 have C := Lib.hid (ver_clone h hl)
 have SO := Lib.hid (fun (B : World) (x : Value) (hx : RowsOwn 43 2 verV w l x B) => ver_sortfn hx hl)
 have CO := Lib.hid (fun (B : World) (x : Value) (S : List Ver.V) (hs : S.length ≤ 1000000) (hx : RowsOwn 43 2 verV w S x B) => ver_compact hx hs)
 clear h
 go_enter Try.func58, Try.ntmps58
 go_wp2_with fail
 refine (C.out).mono ?_
 rintro e w1 ⟨x, rfl, hx⟩
 have HX := Lib.hid hx
 clear hx
 go_wp2_with fail
 refine (SO.out _ _ HX.out).mono ?_
 rintro e w2 ⟨rfl, S, hS, hperm, hup⟩
 have HS := Lib.hid hS
 have hSl : S.length ≤ 1000000 := by rw [hperm.length_eq]; exact hl
 have hfin : Hid (Ver.sort l = Lib.compact S) := Lib.hid (by
  obtain ⟨h1, h2⟩ := compact_sort hup
  exact Ver.sort_is h1 (fun x => (h2 x).trans hperm.mem_iff))
 clear hS hperm hup
 go_wp2_with fail
 refine (CO.out _ _ _ hSl HS.out).mono ?_
 rintro e w3 ⟨v3, rfl, h3⟩
 have H3 := Lib.hid h3
 clear h3
 go_wp2_with fail
 go_ret
 exact ⟨_, rfl, by rw [hfin.out]; exact H3.out⟩
open Go.RowKit Go.Sort
open Go.RowKit Go.Sort
theorem vers_ok : VersOk where
 check := fun v h => ver_check _ v h
 before := fun a b => ver_before _ a b
 sort := fun h hl => (ver_sort h hl).mono (fun e w' ⟨v', he, hr⟩ => ⟨v', he, hr.rows (fun _ _ => rfl), hr.2⟩)
open Go.RowKit Go.Sort
end Go.Proofs.Ytpafpegcodempaa
