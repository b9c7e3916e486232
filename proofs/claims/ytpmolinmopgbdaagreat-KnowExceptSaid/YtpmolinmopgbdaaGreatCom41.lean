import Derived.Test.YtpmolinmopgbdaaGreatCom10
import Derived.Test.YtpmolinmopgbdaaGreatCom8
import Derived.Test.YtpmolinmopgbdaaGreatCom40
import Derived.Test.YtpmolinmopgbdaaGreatCom14
import Derived.Test.YtpmolinmopgbdaaGreatCom26
import Derived.Shelf.Spec.SlicesGrow
import Derived.Shelf.SlicesQ.IndexFunc
set_option maxRecDepth 100000
set_option linter.unusedVariables false
set_option linter.unusedSimpArgs false
set_option maxHeartbeats 12800000
namespace Go.Proofs.YtpmolinmopgbdaaGreat
open List renaming getElem_toArray → z1, getElem_cons_zero → z2, getElem_cons_succ → z3, setIfInBounds_toArray → z4, set_cons_zero → z5, set_cons_succ → z6
open Go.RowKit Go.Sort
instance : Inhabited Ver.V := ⟨⟨0, 0⟩⟩
theorem set_vers : ∀ (l : List Ver.V) (i : Nat) (u : Ver.V), ((l.flatMap verV).set (i * 2) (.int .i64 u.by_)).set (i * 2 + 1) (.int .i64 u.n) = (l.set i u).flatMap verV
  | [], i, u => by simp
  | y :: l, 0, u => by simp [verV]
  | y :: l, i + 1, u => by
    have e : (i + 1) * 2 = i * 2 + 2 := by omega
    rw [e]
    have := set_vers l i u
    simp only [List.flatMap_cons, verV, List.cons_append, List.nil_append, List.set_cons_succ] at this ⊢
    rw [this]
theorem RowsOwn.putAt {w W : World} {l : List Ver.V} {g cap : Nat} (h : RowsOwn 27 2 verV w l (.slice (some ⟨g, 0, none⟩) l.length cap) W) (i : Nat) (u : Ver.V) :
    RowsOwn 27 2 verV w (l.set i u) (.slice (some ⟨g, 0, none⟩) l.length cap) ((W.setCell ⟨g, i * 2, none⟩ (.int .i64 u.by_)).setCell ⟨g, i * 2 + 1, none⟩ (.int .i64 u.n)) := by
  obtain ⟨h1, h2⟩ := h.1.stored (i * 2) (.int .i64 u.by_)
  obtain ⟨h3, h4⟩ := h1.stored (i * 2 + 1) (.int .i64 u.n)
  rw [set_vers] at h3
  refine ⟨by rw [List.length_set]; exact h3, h.2.grown (gb_trans h2 h4) h.2.size (fun k hk => ?_)⟩
  injection hk with hk
  rw [← hk]
  exact (h.1.lt g rfl).1
theorem zero_ver (w : World) : (zeroValue 27).run Tryz.prog w = .ok (.agg #[.int .i64 0, .int .i64 0]) w := by
  obtain ⟨i0, hi0, hz0, -, -⟩ := ver_parts verInfo
  simp [zeroValue, typeInfo, hi0, hz0]
theorem RowsOwn.cleared {w W : World} {l : List Ver.V} {g cap m n : Nat} (h : RowsOwn 27 2 verV w l (.slice (some ⟨g, 0, none⟩) n cap) W) (hn : l.length = n) (hm : m < n) (c : Nat) :
    ∃ w', (∀ ty, (Builtin.clear_ #[40] ty #[.slice (some ⟨g, m * 2, none⟩) (n - m) c]).run Tryz.prog W = .ok (.tuple #[]) w') ∧ RowsOwn 27 2 verV w (l.take m) (.slice (some ⟨g, 0, none⟩) m cap) w' := by
  subst hn
  obtain ⟨w', r1, r2, r3⟩ := own_clear (P := Tryz.prog) h.1 hm Tryz.underlying40 zero_ver rfl (by decide) c
  refine ⟨w', r1, ?_, h.2.grown r3 h.2.size (fun k hk => ?_)⟩
  · have e : (l.flatMap verV).take (m * 2) = (l.take m).flatMap verV := by
      have hs : l.flatMap verV = (l.take m).flatMap verV ++ (l.drop m).flatMap verV := by rw [← List.flatMap_append, List.take_append_drop]
      rw [hs, List.take_left' (by rw [rows_len (k := 2) (f := verV) _ (fun _ _ => rfl), List.length_take]; omega)]
    rw [e] at r2
    have hl : (l.take m).length = m := by rw [List.length_take]; omega
    rw [hl]
    exact r2
  · injection hk with hk
    rw [← hk]
    exact (h.1.lt g rfl).1
theorem compact_done {l dk : List Ver.V} {m kk : Nat} (hm : m = l.length) (hd : dk.length = l.length) (h : Lib.CompInv l.toArray m kk dk.toArray) : dk.take kk = Lib.compact l := by
  subst hm
  have hk := h.lt
  have hlen : (Lib.compact l).length = kk := h.len
  apply List.ext_getElem?
  intro j
  by_cases hj : j < kk
  · rw [List.getElem?_take_of_lt hj]
    have := h.low j hj
    show dk[j]? = (Lib.compactUpTo l.toArray l.length)[j]?
    rw [this, ← getI_to dk.toArray (by simp; omega)]
  · rw [List.getElem?_take_eq_none (by omega), List.getElem?_eq_none (by omega)]
theorem compact_few (l : List Ver.V) (h : l.length < 2) : Lib.compact l = l := Lib.compact_all l (fun j hj => Lib.keeps_lt_one _ j (by omega))
theorem ver_compact {w wr : World} {v : Value} {l : List Ver.V} (h : RowsOwn 27 2 verV w l v wr) (hl : l.length ≤ 1000000) :
    Calls Tryz.prog 139 #[v] wr fun e w' => ∃ v', e = .returned v' ∧ RowsOwn 27 2 verV w (Lib.compact l) v' w' := by
  by_cases h2 : l.length < 2
  · have hfin := Lib.hid (compact_few l h2)
    obtain ⟨A, cap, rfl, hcap⟩ := (h.rows (fun _ _ => rfl)).parts
    have H := Lib.hid h
    have h2' : (l.length : Int) < 2 := by omega
    clear h
    go_enter Tryz.func139, Tryz.ntmps139
    go_wp2_with fail
    go_ret
    exact ⟨_, rfl, by rw [hfin.out]; exact H.out⟩
  · obtain ⟨g, cap, rfl, hg0, hgl⟩ := h.1.form (by omega)
    have hcap : l.length ≤ cap := by
      obtain ⟨A, c, e, hc⟩ := (h.rows (fun _ _ => rfl)).parts
      injection e with e1 e2 e3
      omega
    have h2' : ¬ (l.length : Int) < 2 := by omega
    have hl' : (l.length : Int) ≤ 1000000 := by omega
    have hcap' : (l.length : Int) ≤ (cap : Int) := by omega
    have hwhole : Hid (Lib.compact l = Lib.compactUpTo l.toArray l.length) := Lib.hid rfl
    have H := Lib.hid h
    clear h
    go_enter Tryz.func139, Tryz.ntmps139
    go_wp2_with fail
    go_loopw [3] (fun i W => ∃ k : Nat, 1 ≤ k ∧ k ≤ l.length ∧ i = .int .i64 (k : Int) ∧ Hid (∀ j, j < k → Lib.keeps l.toArray j = true) ∧ Hid (RowsOwn 27 2 verV w l (.slice (some ⟨g, 0, none⟩) l.length cap) W)) (fun i _ => l.length - (intOf i).toNat)
    case atStart => exact ⟨1, Nat.le_refl _, by omega, by go_num, Lib.hid (Lib.keeps_lt_one _), H⟩
    case round =>
      obtain ⟨k, hk1, hk, rfl, hall, hown⟩ := hrel
      by_cases hlt : k < l.length
      · obtain ⟨x, hx⟩ : ∃ x, l[k]? = some x := ⟨_, List.getElem?_eq_getElem hlt⟩
        obtain ⟨y, hy⟩ : ∃ y, l[k - 1]? = some y := ⟨_, List.getElem?_eq_getElem (by omega)⟩
        obtain ⟨c0, c1⟩ := Vrs.at (hown.out.rows (fun _ _ => rfl)) hx
        obtain ⟨d0, d1⟩ := Vrs.at (hown.out.rows (fun _ _ => rfl)) hy
        rw [Nat.zero_add] at c0 c1 d0 d1
        have hn1 : (k : Int) < (l.length : Int) := by omega
        have hk1' : (1 : Int) ≤ (k : Int) := by omega
        have KX : Hid (l.toArray[k]! = x ∧ l.toArray[k - 1]! = y) := Lib.hid ⟨getI_of hx, getI_of hy⟩
        by_cases hxy : x = y
        · subst hxy
          have hneg : Hid (Lib.keeps l.toArray k = false) := Lib.hid (Lib.keeps_neg (by omega) (by rw [KX.out.1, KX.out.2]))
          have hst := Lib.hid (Lib.CompInv.start hall.out hneg.out)
          obtain ⟨x1, x2⟩ := x
          simp only at c0 c1 d0 d1
          clear hx hy hall hneg
          go_wp2_with fail
          go_quiet (fail)
          have hown2 : Hid (RowsOwn 27 2 verV w l (.slice (some ⟨g, 0, none⟩) l.length cap) (wr.drewN nq)) := Lib.hid (hown.out.below (ver_drews _ _))
          generalize wr.drewN nq = W at *
          clear c0 c1 d0 d1 hown
          go_wp2_with fail
          go_loopw [3, 5] (fun s3 s5 W2 => ∃ (kk k2 : Nat) (dk : List Ver.V), s3 = .int .i64 (kk : Int) ∧ s5 = .int .i64 (k2 : Int) ∧ 1 ≤ k2 ∧ k + k2 ≤ l.length ∧ kk < k + k2 ∧ dk.length = l.length ∧ Hid (Lib.CompInv l.toArray (k + k2) kk dk.toArray) ∧ Hid (RowsOwn 27 2 verV w dk (.slice (some ⟨g, 0, none⟩) dk.length cap) W2)) (fun _ s5 _ => l.length - (intOf s5).toNat)
          case atStart => exact ⟨k, 1, l, rfl, by go_num, Nat.le_refl _, by omega, by omega, rfl, hst, hown2⟩
          case round =>
            obtain ⟨kk, k2, dk, rfl, rfl, h1, hle, hkk, hdl, hI, hrow⟩ := hrel
            have hk2' : (1 : Int) ≤ (k2 : Int) := by omega
            by_cases hlt2 : k + k2 < l.length
            · obtain ⟨x, hx⟩ : ∃ x, dk[k + k2]? = some x := ⟨_, List.getElem?_eq_getElem (by omega)⟩
              obtain ⟨y, hy⟩ : ∃ y, dk[k + k2 - 1]? = some y := ⟨_, List.getElem?_eq_getElem (by omega)⟩
              obtain ⟨z, hz⟩ : ∃ z, dk[kk]? = some z := ⟨_, List.getElem?_eq_getElem (by omega)⟩
              have CL : Hid (∀ U : World, Hid (RowsOwn 27 2 verV w dk (.slice (some ⟨g, 0, none⟩) dk.length cap) U) → (U.cell? ⟨g, k * 2 + k2 * 2, none⟩ = some (.int .i64 x.by_) ∧ U.cell? ⟨g, k * 2 + k2 * 2 + 1, none⟩ = some (.int .i64 x.n)) ∧ U.cell? ⟨g, k * 2 + (k2 - 1) * 2, none⟩ = some (.int .i64 y.by_) ∧ U.cell? ⟨g, k * 2 + (k2 - 1) * 2 + 1, none⟩ = some (.int .i64 y.n)) := Lib.hid (fun U hU => by
                have a := Vrs.at (hU.out.rows (fun _ _ => rfl)) hx
                have b := Vrs.at (hU.out.rows (fun _ _ => rfl)) hy
                rw [Nat.zero_add] at a b
                rw [show (k + k2) * 2 = k * 2 + k2 * 2 by omega] at a
                rw [show (k + k2 - 1) * 2 = k * 2 + (k2 - 1) * 2 by omega] at b
                exact ⟨a, b⟩)
              have CZ : Hid (∀ U : World, Hid (RowsOwn 27 2 verV w dk (.slice (some ⟨g, 0, none⟩) dk.length cap) U) → (U.cell? ⟨g, kk * 2, none⟩ = some (.int .i64 z.by_) ∧ U.cell? ⟨g, kk * 2 + 1, none⟩ = some (.int .i64 z.n)) ∧ U.frozen? ⟨g, kk * 2, none⟩ = false ∧ U.frozen? ⟨g, kk * 2 + 1, none⟩ = false) := Lib.hid (fun U hU => by
                have a := Vrs.at (hU.out.rows (fun _ _ => rfl)) hz
                rw [Nat.zero_add] at a
                exact ⟨a, hU.out.1.frozenAt _, hU.out.1.frozenAt _⟩)
              have KX : Hid (l.toArray[k + k2]! = x ∧ l.toArray[k + k2 - 1]! = y) := Lib.hid ⟨(hI.out.high _ (by omega)).symm.trans (getI_of hx), (hI.out.high _ (by omega)).symm.trans (getI_of hy)⟩
              obtain ⟨⟨c0, c1⟩, d0, d1⟩ := CL.out _ hrow
              have hn1 : (k2 : Int) < (l.length : Int) - (k : Int) := by omega
              have hn2 : (k2 : Int) - 1 < (l.length : Int) - (k : Int) := by omega
              have hkl : (kk : Int) < (l.length : Int) := by omega
              have hkk0 : (0 : Int) ≤ (kk : Int) := by omega
              clear hx hy hz
              by_cases hxy : x = y
              · subst hxy
                have hneg : Hid (Lib.keeps l.toArray (k + k2) = false) := Lib.hid (Lib.keeps_neg (by omega) (by rw [KX.out.1, KX.out.2]))
                have hnext : Hid (Lib.CompInv l.toArray (k + (k2 + 1)) kk dk.toArray) := Lib.hid (hI.out.skip hneg.out)
                obtain ⟨x1, x2⟩ := x
                simp only at c0 c1 d0 d1
                clear hneg
                go_wp2_with fail
                go_quiet (fail)
                have hrow2 : Hid (RowsOwn 27 2 verV w dk (.slice (some ⟨g, 0, none⟩) dk.length cap) (wr.drewN nq)) := Lib.hid (hrow.out.below (ver_drews _ _))
                go_wp2_with fail
                exact ⟨⟨kk, k2 + 1, dk, rfl, by go_num, by omega, by omega, by omega, hdl, hnext, hrow2⟩, by show l.length - ((k2 : Int) + 1).toNat < l.length - (k2 : Int).toNat; omega⟩
              · have hpos : Hid (Lib.keeps l.toArray (k + k2) = true) := Lib.hid (Lib.keeps_pos (by rw [KX.out.1, KX.out.2]; exact hxy))
                have hnext : Hid (Lib.CompInv l.toArray (k + (k2 + 1)) (kk + 1) (dk.set kk x).toArray) := Lib.hid (by
                  have := hI.out.keep (by simpa using hlt2) hpos.out
                  rw [KX.out.1, List.setIfInBounds_toArray] at this
                  exact this)
                have hset : Hid (∀ U, RowsOwn 27 2 verV w dk (.slice (some ⟨g, 0, none⟩) dk.length cap) U → Hid (RowsOwn 27 2 verV w (dk.set kk x) (.slice (some ⟨g, 0, none⟩) (dk.set kk x).length cap) ((U.setCell ⟨g, kk * 2, none⟩ (.int .i64 x.by_)).setCell ⟨g, kk * 2 + 1, none⟩ (.int .i64 x.n)))) := Lib.hid (fun U hU => Lib.hid (by rw [List.length_set]; exact hU.putAt kk x))
                obtain ⟨x1, x2⟩ := x
                obtain ⟨y1, y2⟩ := y
                obtain ⟨z1, z2⟩ := z
                simp only at c0 c1 d0 d1
                have hxy' : x1 = y1 → ¬ x2 = y2 := fun h k => hxy (by rw [h, k])
                clear hpos hxy KX
                by_cases h1' : x1 = y1
                · have h2' := hxy' h1'
                  subst h1'
                  clear hxy'
                  go_wp2_with fail
                  go_quiet (fail)
                  have hrow2 : Hid (RowsOwn 27 2 verV w dk (.slice (some ⟨g, 0, none⟩) dk.length cap) (wr.drewN nq)) := Lib.hid (hrow.out.below (ver_drews _ _))
                  generalize wr.drewN nq = W at *
                  clear c0 c1 d0 d1
                  obtain ⟨⟨c0, c1⟩, -, -⟩ := CL.out _ hrow2
                  obtain ⟨⟨e0, e1⟩, f0, f1⟩ := CZ.out _ hrow2
                  have HS := hset.out _ hrow2.out
                  have e1' : ∀ u, (W.setCell ⟨g, kk * 2, none⟩ u).cell? ⟨g, kk * 2 + 1, none⟩ = some (.int .i64 z2) := fun u => (World.cell?_setCell_other _ _ _ _ (by simp)).trans e1
                  have f1' : ∀ u, (W.setCell ⟨g, kk * 2, none⟩ u).frozen? ⟨g, kk * 2 + 1, none⟩ = false := fun u => (World.frozen?_setCell _ _ _ _).trans f1
                  go_wp2_with fail
                  exact ⟨⟨kk + 1, k2 + 1, _, by go_num, by go_num, by omega, by omega, by omega, by rw [List.length_set]; exact hdl, hnext, HS⟩, by show l.length - ((k2 : Int) + 1).toNat < l.length - (k2 : Int).toNat; omega⟩
                · clear hxy'
                  go_wp2_with fail
                  go_quiet (fail)
                  have hrow2 : Hid (RowsOwn 27 2 verV w dk (.slice (some ⟨g, 0, none⟩) dk.length cap) (wr.drewN nq)) := Lib.hid (hrow.out.below (ver_drews _ _))
                  generalize wr.drewN nq = W at *
                  clear c0 c1 d0 d1
                  obtain ⟨⟨c0, c1⟩, -, -⟩ := CL.out _ hrow2
                  obtain ⟨⟨e0, e1⟩, f0, f1⟩ := CZ.out _ hrow2
                  have HS := hset.out _ hrow2.out
                  have e1' : ∀ u, (W.setCell ⟨g, kk * 2, none⟩ u).cell? ⟨g, kk * 2 + 1, none⟩ = some (.int .i64 z2) := fun u => (World.cell?_setCell_other _ _ _ _ (by simp)).trans e1
                  have f1' : ∀ u, (W.setCell ⟨g, kk * 2, none⟩ u).frozen? ⟨g, kk * 2 + 1, none⟩ = false := fun u => (World.frozen?_setCell _ _ _ _).trans f1
                  go_wp2_with fail
                  exact ⟨⟨kk + 1, k2 + 1, _, by go_num, by go_num, by omega, by omega, by omega, by rw [List.length_set]; exact hdl, hnext, HS⟩, by show l.length - ((k2 : Int) + 1).toNat < l.length - (k2 : Int).toNat; omega⟩
            · have hend : k + k2 = l.length := by omega
              have hm : kk < l.length := by omega
              obtain ⟨W', hcl, hout⟩ := RowsOwn.cleared (n := l.length) (m := kk) (by have := hrow.out; rwa [hdl] at this) hdl hm (cap - kk)
              have hfin : Hid (dk.take kk = Lib.compact l) := Lib.hid (compact_done hend hdl hI.out)
              have HO := Lib.hid hout
              have hkl : (kk : Int) < (l.length : Int) := by omega
              have hkk0 : (0 : Int) ≤ (kk : Int) := by omega
              have hkc : (kk : Int) ≤ (cap : Int) := by omega
              clear hout
              go_wp2_with fail
              go_ret
              exact ⟨_, rfl, by rw [← hfin.out]; exact HO.out⟩
        · have hpos : Hid (∀ j, j < k + 1 → Lib.keeps l.toArray j = true) := Lib.hid (fun j hj => by
            by_cases e : j = k
            · subst e
              exact Lib.keeps_pos (by rw [KX.out.1, KX.out.2]; exact hxy)
            · exact hall.out j (by omega))
          obtain ⟨x1, x2⟩ := x
          obtain ⟨y1, y2⟩ := y
          simp only at c0 c1 d0 d1
          have hxy' : x1 = y1 → ¬ x2 = y2 := fun h k => hxy (by rw [h, k])
          clear hx hy hall hxy KX
          by_cases h1 : x1 = y1
          · have h2 := hxy' h1
            subst h1
            clear hxy'
            go_wp2_with fail
            go_quiet (fail)
            go_wp2_with fail
            exact ⟨⟨k + 1, by omega, by omega, by go_num, hpos, Lib.hid (hown.out.below (ver_drews _ _))⟩, by show l.length - ((k : Int) + 1).toNat < l.length - (k : Int).toNat; omega⟩
          · clear hxy'
            go_wp2_with fail
            go_quiet (fail)
            go_wp2_with fail
            exact ⟨⟨k + 1, by omega, by omega, by go_num, hpos, Lib.hid (hown.out.below (ver_drews _ _))⟩, by show l.length - ((k : Int) + 1).toNat < l.length - (k : Int).toNat; omega⟩
      · obtain rfl : k = l.length := by omega
        have hfin : Hid (Lib.compact l = l) := Lib.hid (Lib.compact_all l hall.out)
        clear hall
        go_wp2_with fail
        go_ret
        exact ⟨_, rfl, by rw [hfin.out]; exact hown.out⟩
end Go.Proofs.YtpmolinmopgbdaaGreat
namespace Go.Proofs.YtpmolinmopgbdaaGreat
open List renaming getElem_toArray → z1, getElem_cons_zero → z2, getElem_cons_succ → z3, setIfInBounds_toArray → z4, set_cons_zero → z5, set_cons_succ → z6
open Go.RowKit Go.Shelf Go.Lib
theorem iset_grow (n : Nat) (hn : n ≤ 2000000) (w : World) :
    Calls Tryz.prog 141 #[.slice none 0 0, .int .i64 (n : Int)] w fun e w' => ∃ v, e = .returned v ∧ RowsOwn 27 2 verV w [] v w' := by
  obtain ⟨i0, hi0, hz0, hz1, hz2⟩ := ver_parts verInfo
  by_cases h0 : n = 0
  · subst h0
    refine (Any8.slices_Grow_room Tryz.growVr none 0 0 0 w (Nat.le_refl _) (by omega) (by omega) (by omega)).mono ?_
    rintro e w' ⟨rfl, rfl⟩
    exact ⟨_, rfl, RowsOwn.start _ _ _ _⟩
  · refine (Any8.slices_Grow_grow Tryz.growVr i0 (.agg #[.int .i64 0, .int .i64 0]) hi0 hz0 (by omega) none 0 0 n [] w (Nat.le_refl _) (by omega) (by rw [hz2]; omega) (by omega) (by simp) (fun _ => rfl) (fun a h => by cases h)).mono ?_
    rintro e w' ⟨rfl, rfl⟩
    refine ⟨_, rfl, ?_, ((Below.refl _ w).drew).alloc (Nat.le_refl _) _⟩
    have hG := grownCap_ge w (0 + n) 0 (Tryz.growVr_ren.t 25)
    have hM := grownCap_le_maxLen w (0 + n) 0 (Tryz.growVr_ren.t 25) (by unfold maxLen; omega)
    refine World.ownsRow_made w.drew _ _ (Nat.le_refl _) hM ?_
    have hzc : (Value.agg #[.int .i64 0, .int .i64 0]).cells.size = 2 := rfl
    simp only [Array.size_append, size_zeroCells, hzc, List.size_toArray, List.length_nil]
    omega
theorem iset_concat {w : World} {F G : Nat → Prop} {u v : Value} {a b : List Ver.V} {bk : Nat} (ha : Vrs w F u a) (hb : Vrs w G v b) (la : a.length ≤ 500000) (lb : b.length ≤ 500000) (c0 : w.cell? ⟨bk, 0, none⟩ = some u) (c1 : w.cell? ⟨bk, 1, none⟩ = some v) (hk : bk < w.heap.size) :
    Calls Tryz.prog 115 #[.slice (some ⟨bk, 0, none⟩) 2 2] w fun e w' => ∃ v', e = .returned v' ∧ RowsOwn 27 2 verV w (a ++ b) v' w' := by
  obtain ⟨i0, hi0, hz0, hz1, hz2⟩ := ver_parts verInfo
  obtain ⟨A, c, rfl, hc⟩ := ha.parts
  obtain ⟨B, d, rfl, hd⟩ := hb.parts
  have HA := Lib.hid ha
  have HB := Lib.hid hb
  have la0 : (a.length : Int) ≤ 500000 := by omega
  have lb0 : (b.length : Int) ≤ 500000 := by omega
  have la1 : (0 : Int) ≤ (a.length : Int) := by omega
  have lb1 : (0 : Int) ≤ (b.length : Int) := by omega
  have HG : Hid (∀ W, Calls Tryz.prog 141 #[.slice none 0 0, .int .i64 ((a.length : Int) + (b.length : Int))] W fun e w' => ∃ v, e = .returned v ∧ RowsOwn 27 2 verV W [] v w') := Lib.hid (fun W => by
    have := iset_grow (a.length + b.length) (by omega) W
    rwa [Int.natCast_add] at this)
  clear ha hb
  go_enter Tryz.func115, Tryz.ntmps115
  go_wp2_with fail
  refine wp_loop_rounds 3 ?_
  rw [rounds_succ]
  go_wp2_with fail
  rw [rounds_succ]
  go_wp2_with fail
  rw [rounds_succ]
  go_wp2_with fail
  refine (HG.out w).mono ?_
  rintro e w1 ⟨v1, rfl, h1⟩
  have hg1 := HA.out.below h1.2
  have hz1' : w.heap.size ≤ w1.heap.size := h1.2.size
  have e0 : w1.cell? ⟨bk, 0, none⟩ = some (.slice A a.length c) := (h1.2.cell (p := ⟨bk, 0, none⟩) hk).trans c0
  have e1 : w1.cell? ⟨bk, 1, none⟩ = some (.slice B b.length d) := (h1.2.cell (p := ⟨bk, 1, none⟩) hk).trans c1
  have H1 := Lib.hid h1
  have own1 := h1.1
  clear h1 c0 c1
  go_wp2_with fail
  refine wp_loop_rounds 3 ?_
  rw [rounds_succ]
  go_wp2_with (at_builtin; refine wp_joins (f := verV) (k := 2) rfl _ _ 40 rfl w.heap.size 27 i0 (.agg #[.int .i64 0, .int .i64 0]) 16 Tryz.underlying40 hi0 hz0 hz1 hz2 rfl (by decide) rfl rfl own1 hg1 (fun _ _ => rfl) (fun x _ => ver_one x) ?c3 ?c4 hz1' ?_)
  case c3 => unfold maxLen; first | omega | (simp <;> omega)
  case c4 => first | omega | (simp <;> omega)
  intro v2 w2 j1 j2 j3
  have h2 : RowsOwn 27 2 verV w a v2 w2 := ⟨by simpa using j1, H1.out.2.grown j2 H1.out.2.size (fun k hk => (H1.out.1.lt k hk).1)⟩
  have hg2 := HB.out.below h2.2
  have hz2' : w.heap.size ≤ w2.heap.size := h2.2.size
  have f1 : w2.cell? ⟨bk, 1, none⟩ = some (.slice B b.length d) := (j2.cell e1 (fun e => by have := (H1.out.1.lt bk e.symm).1; omega))
  have H2 := Lib.hid h2
  have own2 := h2.1
  clear h2 j1 j2 j3 H1 own1 hg1 e0 e1
  go_wp2_with fail
  rw [rounds_succ]
  go_wp2_with (at_builtin; refine wp_joins (f := verV) (k := 2) rfl _ _ 40 rfl w.heap.size 27 i0 (.agg #[.int .i64 0, .int .i64 0]) 16 Tryz.underlying40 hi0 hz0 hz1 hz2 rfl (by decide) rfl rfl own2 hg2 (fun _ _ => rfl) (fun x _ => ver_one x) ?c3 ?c4 hz2' ?_)
  case c3 => unfold maxLen; first | omega | (simp <;> omega)
  case c4 => first | omega | (simp <;> omega)
  intro v3 w3 j1 j2 j3
  have h3 : RowsOwn 27 2 verV w (a ++ b) v3 w3 := ⟨by rw [List.length_append, List.flatMap_append]; exact j1, H2.out.2.grown j2 H2.out.2.size (fun k hk => (H2.out.1.lt k hk).1)⟩
  have H3 := Lib.hid h3
  clear h3 j1 j2 j3 H2 own2 hg2 f1
  go_wp2_with fail
  rw [rounds_succ]
  go_wp2_with fail
  go_ret
  exact ⟨v3, rfl, H3.out⟩
theorem iset_join (Z : VersOk) {w : World} {F G : Nat → Prop} {u v : Value} {a b : List Ver.V} (ha : Vrs w F u a) (hb : Vrs w G v b) (la : a.length ≤ 500000) (lb : b.length ≤ 500000) :
    Calls Tryz.prog 89 #[u, v] w fun e w' => ∃ v', e = .returned v' ∧ Vrs w' (NewIn w w') v' (Iset.join a b) ∧ Below w.heap.size w w' := by
  obtain ⟨A, c, rfl, hc⟩ := ha.parts
  obtain ⟨B, d, rfl, hd⟩ := hb.parts
  have hb0 : Below w.heap.size w (w.alloc (.cells #[.slice A a.length c, .slice B b.length d] 40)) := (Below.refl _ _).alloc (Nat.le_refl _) _
  have hrow := Row.made w 40 #[.slice A a.length c, .slice B b.length d]
  have HC := Lib.hid (iset_concat (ha.below hb0) (hb.below hb0) la lb (hrow.at 0) (hrow.at 1) (by simp))
  have Hb0 := Lib.hid hb0
  have HO := Lib.hid (fun (W : World) (x : Value) (hx : RowsOwn 27 2 verV (w.alloc (.cells #[.slice A a.length c, .slice B b.length d] 40)) (a ++ b) x W) => iset_of Z (hx.rows (fun _ _ => rfl)) (by rw [List.length_append]; omega))
  clear ha hb hb0 hrow
  go_enter Tryz.func89, Tryz.ntmps89
  go_wp2_with fail
  refine (HC.out).mono ?_
  rintro e w1 ⟨v1, rfl, h1⟩
  have HB1 := Lib.hid (Hb0.out.trans (h1.2.mono Hb0.out.size))
  have HN := Lib.hid (HO.out w1 v1 h1)
  clear h1
  go_wp2_with fail
  refine (HN.out).mono ?_
  rintro e w2 ⟨v2, rfl, h2, h3⟩
  have H2 : Hid (Vrs w2 (NewIn w w2) v2 (Iset.join a b)) := Lib.hid (h2.mono (fun i hi => ⟨Nat.le_trans HB1.out.size hi.1, hi.2⟩))
  have H3 := Lib.hid (HB1.out.trans (h3.mono HB1.out.size))
  clear h2 h3
  go_wp2_with fail
  go_ret
  exact ⟨v2, rfl, H2.out, H3.out⟩
theorem iset_put (Z : VersOk) {w : World} {F : Nat → Prop} {v : Value} {l : List Ver.V} (x : Ver.V) (h : Vrs w F v l) (hl : l.length ≤ 500000) :
    Calls Tryz.prog 56 #[v, verA x] w fun e w' => ∃ v', e = .returned v' ∧ Vrs w' (NewIn w w') v' (Iset.put l x) ∧ Below w.heap.size w w' := by
  have L0 := (Laid.new w (.cells #[.int .i64 x.by_, .int .i64 x.n] 27)).below
  have L1 := ((Laid.new w (.cells #[.int .i64 x.by_, .int .i64 x.n] 27)).trans (Laid.new _ (.cells #[.int .i64 x.by_, .int .i64 x.n] 27))).below
  have JO := Lib.hid (iset_join Z (h.below L1) (ver_made (w.alloc (.cells #[.int .i64 x.by_, .int .i64 x.n] 27)) 27 x) hl (by simp))
  have HJ : Hid (Iset.join l [x] = Iset.put l x) := Lib.hid (Iset.put_is l x)
  have HL := Lib.hid L1
  obtain ⟨A, cap, rfl, hcap⟩ := h.parts
  obtain ⟨x1, x2⟩ := x
  simp only at JO HL
  rw [World.size_alloc] at JO
  clear h L0 L1
  go_enter Tryz.func56, Tryz.ntmps56
  go_wp2_with fail
  refine (JO.out).mono ?_
  rintro e w1 ⟨v1, rfl, h1, h2⟩
  have H1 : Hid (Vrs w1 (NewIn w w1) v1 (Iset.put l ⟨x1, x2⟩)) := Lib.hid (by rw [← HJ.out]; exact h1.mono (fun i hi => ⟨Nat.le_trans HL.out.size hi.1, hi.2⟩))
  have H2 := Lib.hid (HL.out.trans (h2.mono HL.out.size))
  clear h1 h2
  go_wp2_with fail
  go_ret
  exact ⟨_, rfl, H1.out, H2.out⟩
theorem within_pred (Z : VersOk) {S : List Ver.V} {cb B : Nat} (w : World) (hf : Finds w S (.func (.func 147) #[] #[.pointer (some ⟨cb, 0, none⟩)])) (hB : B < w.heap.size) (hc : w.cell? ⟨B, 0, none⟩ = some (.func (.func 147) #[] #[.pointer (some ⟨cb, 0, none⟩)])) :
    PredBelow Tryz.prog 126 #[.pointer (some ⟨B, 0, none⟩)] (fun x : Ver.V => .agg (verV x).toArray) (fun x => !decide (x ∈ S)) w := fun W x hb => by
  have hc2 : W.cell? ⟨B, 0, none⟩ = some (.func (.func 147) #[] #[.pointer (some ⟨cb, 0, none⟩)]) := (hb.cell (p := ⟨B, 0, none⟩) hB).trans hc
  have LB := Lib.hid (Laid.new W (.cells #[.int .i64 x.by_, .int .i64 x.n] 27))
  have hc3 : (W.alloc (.cells #[.int .i64 x.by_, .int .i64 x.n] 27)).cell? ⟨B, 0, none⟩ = some (.func (.func 147) #[] #[.pointer (some ⟨cb, 0, none⟩)]) := (LB.out.below.cell (p := ⟨B, 0, none⟩) (Nat.lt_of_lt_of_le hB hb.size)).trans hc2
  have FC := Lib.hid (Finds.calls Z ((hf.below hb).below LB.out.below) x)
  have Hb := Lib.hid hb
  obtain ⟨x1, x2⟩ := x
  simp only at hc3 LB FC
  clear hb hc hB hf
  show Calls Tryz.prog 126 #[.agg #[.int .i64 x1, .int .i64 x2], .pointer (some ⟨B, 0, none⟩)] W _
  obtain ⟨r, hr⟩ : ∃ r, r = decide ((⟨x1, x2⟩ : Ver.V) ∈ S) := ⟨_, rfl⟩
  rw [← hr] at FC
  have HR := Lib.hid hr
  clear hr
  go_enter Tryz.func126, Tryz.ntmps126
  go_wp2_with fail
  refine (FC.out).mono ?_
  rintro e w1 ⟨rfl, h1⟩
  have H1 := Lib.hid (Hb.out.trans ((LB.out.trans h1).below.mono Hb.out.size))
  clear h1
  go_wp2_with fail
  go_ret
  exact ⟨by rw [HR.out]; rfl, H1.out⟩
theorem vidx_none (A : Option Addr) (c : Nat) (fv : Value) (w : World) :
    Calls Tryz.prog 149 #[.slice A 0 c, fv] w fun e w' => e = .returned (.int .i64 (-1)) ∧ w' = w := by
  go_enter Tryz.func149, Tryz.ntmps149
  go_wp2_with fail
  refine wp_loop_rounds 1 ?_
  rw [rounds_succ]
  go_wp2_with fail
  go_ret
  exact ⟨rfl, rfl⟩
theorem vhas_none (A : Option Addr) (c : Nat) (fv : Value) (w : World) :
    Calls Tryz.prog 125 #[.slice A 0 c, fv] w fun e w' => e = .returned (.bool false) ∧ w' = w := by
  go_enter Tryz.func125, Tryz.ntmps125
  go_wp2_with (go_at_call 149; refine (vidx_none _ _ _ _).mono ?_; rintro e w' ⟨rfl, rfl⟩)
  go_ret
  exact ⟨rfl, rfl⟩
theorem within_any (Z : VersOk) {w : World} {F : Nat → Prop} {v : Value} {l S : List Ver.V} (h : Vrs w F v l) (hl : l.length ≤ 1000000) {cb B : Nat} (hf : Finds w S (.func (.func 147) #[] #[.pointer (some ⟨cb, 0, none⟩)])) (hB : B < w.heap.size) (hc : w.cell? ⟨B, 0, none⟩ = some (.func (.func 147) #[] #[.pointer (some ⟨cb, 0, none⟩)])) :
    Calls Tryz.prog 125 #[v, .func (.func 126) #[] #[.pointer (some ⟨B, 0, none⟩)]] w fun e w' => e = .returned (.bool (l.any fun x => !decide (x ∈ S))) ∧ Below w.heap.size w w' := by
  by_cases h0 : 0 < l.length
  · obtain ⟨A, cap, rfl, hcap, hat⟩ := h
    obtain ⟨b, o, rfl, -, hb, hcl⟩ := hat h0
    have eg : ∀ args w, (callFunc 126 args).run Tryz.prog w = .ok (.enter 126 args) w := enters_of Tryz.func126 (by kernel_rfl) rfl
    have hcon := AnyQ.slices_ContainsFunc Tryz.hasVr 2 Tryz.isAgg27 Tryz.sizeOf27 verV ver_len (fun x : Ver.V => !decide (x ∈ S)) 126 #[.pointer (some ⟨B, 0, none⟩)] eg b o l.length cap l w (within_pred Z w hf hB hc) (Nat.le_refl _) (by omega) hb
      (fun j hj i u hi => hcl j _ (by rw [List.getElem?_eq_getElem hj, getElem!_pos l j hj]) i u hi)
    rw [List.take_length] at hcon
    exact hcon
  · have hl0 : l = [] := List.eq_nil_of_length_eq_zero (by omega)
    subst hl0
    obtain ⟨A, cap, rfl, -, -⟩ := h
    exact (vhas_none A cap _ w).mono (fun e w' h => ⟨h.1, by rw [h.2]; exact Below.refl _ _⟩)
theorem iset_within (Z : VersOk) {w : World} {F G : Nat → Prop} {u v : Value} {a b : List Ver.V} (h : Vrs w F u a) (k : Vrs w G v b) (hl : a.length ≤ 1000000) (hk : b.length ≤ 1000000) :
    Calls Tryz.prog 100 #[u, v] w fun e w' => e = .returned (.bool (decide (Iset.Within a b))) ∧ Below w.heap.size w w' := by
  have FI := Lib.hid (finder_made Z k hk)
  have hsf : ∀ (w : World) (a : Addr) (m : Mode) (fn : Fn) (fi ca : Array Value), (store a (.func fn fi ca) m).run Tryz.prog w = stored Tryz.prog w a (.func fn fi ca) m := fun w a m fn fi ca => run_store Tryz.prog w a _ m rfl
  have H := Lib.hid h
  have HLn := Lib.hid hl
  have HR : Hid ((!a.any fun x => !decide (x ∈ Ver.sort b)) = decide (Iset.Within a b)) := Lib.hid (by
    rw [Iset.within_is, decide_eq_decide]
    unfold Iset.Within
    simp only [Ver.sort_mem])
  clear h k hl hk
  generalize Ver.sort b = S at *
  go_enter Tryz.func100, Tryz.ntmps100
  go_wp2_with fail
  refine (FI.out).mono ?_
  rintro e w1 ⟨fv, rfl, hf, hb1⟩
  have HF := Lib.hid hf
  obtain ⟨cb, sv, Fs, rfl, -, -, -, -, -⟩ := hf
  have hb : Below w1.heap.size w1 (w1.alloc (.cells #[.func (.func 147) #[] #[.pointer (some ⟨cb, 0, none⟩)]] 70)) := (Below.refl _ _).alloc (Nat.le_refl _) _
  have HB := Lib.hid (hb1.trans (hb.mono hb1.size))
  have HC := Lib.hid (within_any Z (H.out.below HB.out) HLn.out (HF.out.below hb) (B := w1.heap.size) (by simp) ((Row.made w1 70 #[.func (.func 147) #[] #[.pointer (some ⟨cb, 0, none⟩)]]).at 0))
  clear hb1 hb
  go_wp2_with (go_at_call 125; refine (HC.out).mono ?_; rintro e w2 ⟨rfl, hb2⟩)
  have H2 := Lib.hid (HB.out.trans (hb2.mono HB.out.size))
  go_ret
  exact ⟨by rw [← HR.out]; rfl, H2.out⟩
theorem iset_of_vers (Z : VersOk) : IsetOk where
  ofl := fun h hl => iset_of Z h hl
  has := fun x h hl => iset_has x h hl
  put := fun x h hl => iset_put Z x h hl
  join := fun h k hl hk => iset_join Z h k hl hk
  within := fun h k hl hk => iset_within Z h k hl hk
end Go.Proofs.YtpmolinmopgbdaaGreat
namespace Go.Proofs.YtpmolinmopgbdaaGreat
open Go.RowKit Go.Sort
theorem ver_before (w : World) (a b : Ver.V) : Calls Tryz.prog 148 #[verA a, verA b] w fun e w' => e = .returned (.bool (decide (Ver.Before a b))) ∧ Laid w w' := by
  have L := Lib.hid (laid_two w)
  obtain ⟨x, y⟩ := a
  obtain ⟨x', y'⟩ := b
  have E := Lib.hid (show decide (Ver.Before ⟨x, y⟩ ⟨x', y'⟩) = _ from before_alt x y x' y')
  by_cases h1 : x < x'
  · go_enter Tryz.func148, Tryz.ntmps148
    go_wp2_with fail
    go_ret
    exact ⟨by rw [E.out]; first | (simp [h1]; done) | (simp [h1]; omega), L.out _ _⟩
  · by_cases h2 : x = x'
    · subst h2
      go_enter Tryz.func148, Tryz.ntmps148
      go_wp2_with fail
      go_ret
      exact ⟨by rw [E.out]; first | (simp [h1]; done) | (simp [h1]; omega), L.out _ _⟩
    · go_enter Tryz.func148, Tryz.ntmps148
      go_wp2_with fail
      go_ret
      exact ⟨by rw [E.out]; first | (simp [h1, h2]; done) | (simp [h1, h2]; omega), L.out _ _⟩
def Ver.order (a b : Ver.V) : Int := if a = b then 0 else if Ver.Before a b then -1 else 1
theorem ver_order (w : World) (a b : Ver.V) : Calls Tryz.prog 138 #[verA a, verA b] w fun e w' => e = .returned (.int .i64 (Ver.order a b)) ∧ Laid w w' := by
  have L := Lib.hid (laid_two w)
  have BE := Lib.hid (fun W => ver_before W a b)
  by_cases h0 : a = b
  · subst h0
    have E : Hid (Ver.order a a = 0) := Lib.hid (by unfold Ver.order; rw [if_pos rfl])
    obtain ⟨x, y⟩ := a
    go_enter Tryz.func138, Tryz.ntmps138
    go_wp2_with fail
    go_ret
    exact ⟨by rw [E.out]; rfl, L.out _ _⟩
  · have hne : a.by_ = b.by_ → ¬ a.n = b.n := fun h k => h0 (Ver.v_ext h k)
    have main : ∀ r : Bool, r = decide (Ver.Before a b) → Ver.order a b = (if r then -1 else 1) → Calls Tryz.prog 138 #[verA a, verA b] w fun e w' => e = .returned (.int .i64 (Ver.order a b)) ∧ Laid w w' := by
      intro r hr hE
      have BE : Hid (∀ W, Calls Tryz.prog 148 #[verA a, verA b] W fun e w' => e = .returned (.bool r) ∧ Laid W w') := Lib.hid (fun W => by have := BE.out W; rwa [← hr] at this)
      have E := Lib.hid hE
      obtain ⟨x, y⟩ := a
      obtain ⟨x', y'⟩ := b
      simp only at hne
      clear hE hr h0
      by_cases h1 : x = x'
      · have h2 := hne h1
        subst h1
        clear hne
        cases r
        all_goals
          go_enter Tryz.func138, Tryz.ntmps138
          go_wp2_with (go_at_call 148; refine (BE.out _).mono ?_; rintro e w1 ⟨rfl, hl⟩; have HL := Lib.hid ((L.out _ _).trans hl); clear hl)
          go_ret
          exact ⟨by rw [E.out]; rfl, HL.out⟩
      · clear hne
        cases r
        all_goals
          go_enter Tryz.func138, Tryz.ntmps138
          go_wp2_with (go_at_call 148; refine (BE.out _).mono ?_; rintro e w1 ⟨rfl, hl⟩; have HL := Lib.hid ((L.out _ _).trans hl); clear hl)
          go_ret
          exact ⟨by rw [E.out]; rfl, HL.out⟩
    by_cases hb : Ver.Before a b
    · exact main true (decide_eq_true hb).symm (by unfold Ver.order; rw [if_neg h0, if_pos hb, if_pos rfl])
    · exact main false (decide_eq_false hb).symm (by unfold Ver.order; rw [if_neg h0, if_neg hb, if_neg (by decide)])
end Go.Proofs.YtpmolinmopgbdaaGreat
