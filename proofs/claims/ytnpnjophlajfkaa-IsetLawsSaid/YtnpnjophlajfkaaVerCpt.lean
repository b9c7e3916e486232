/- slices.Compact at a call's own versions: runs of the same version become one; the library's two loops are walked. -/
import Derived.Test.YtnpnjophlajfkaaVerPut
import Derived.Test.YtnpnjophlajfkaaOwnClr
set_option linter.unusedSimpArgs false
set_option linter.unusedVariables false
namespace Go.Proofs.Ytnpnjophlajfkaa
open Go.RowKit Go.Sort

instance : Inhabited Ver.V := ⟨⟨0, 0⟩⟩

set_option maxRecDepth 100000 in
theorem set_vers : ∀ (l : List Ver.V) (i : Nat) (u : Ver.V), ((l.flatMap verV).set (i * 2) (.int .i64 u.by_)).set (i * 2 + 1) (.int .i64 u.n) = (l.set i u).flatMap verV
  | [], i, u => by simp
  | y :: l, 0, u => by simp [verV]
  | y :: l, i + 1, u => by
    have e : (i + 1) * 2 = i * 2 + 2 := by omega
    rw [e]
    have := set_vers l i u
    simp only [List.flatMap_cons, verV, List.cons_append, List.nil_append, List.set_cons_succ] at this ⊢
    rw [this]

set_option maxRecDepth 100000 in
/-- One element written in place. -/
theorem RowsOwn.putAt {w W : World} {l : List Ver.V} {g cap : Nat} (h : RowsOwn 24 2 verV w l (.slice (some ⟨g, 0, none⟩) l.length cap) W) (i : Nat) (u : Ver.V) :
    RowsOwn 24 2 verV w (l.set i u) (.slice (some ⟨g, 0, none⟩) l.length cap) ((W.setCell ⟨g, i * 2, none⟩ (.int .i64 u.by_)).setCell ⟨g, i * 2 + 1, none⟩ (.int .i64 u.n)) := by
  obtain ⟨h1, h2⟩ := h.1.stored (i * 2) (.int .i64 u.by_)
  obtain ⟨h3, h4⟩ := h1.stored (i * 2 + 1) (.int .i64 u.n)
  rw [set_vers] at h3
  refine ⟨by rw [List.length_set]; exact h3, h.2.grown (gb_trans h2 h4) h.2.size (fun k hk => ?_)⟩
  injection hk with hk
  rw [← hk]
  exact (h.1.lt g rfl).1

set_option maxRecDepth 100000 in
theorem zero_ver (w : World) : (zeroValue 24).run Try.prog w = .ok (.agg #[.int .i64 0, .int .i64 0]) w := by
  obtain ⟨i0, hi0, hz0, -, -⟩ := ver_parts verInfo
  simp [zeroValue, typeInfo, hi0, hz0]

set_option maxRecDepth 100000 in
/-- The front of the call's own, the rest of it cleared. -/
theorem RowsOwn.cleared {w W : World} {l : List Ver.V} {g cap m n : Nat} (h : RowsOwn 24 2 verV w l (.slice (some ⟨g, 0, none⟩) n cap) W) (hn : l.length = n) (hm : m < n) (c : Nat) :
    ∃ w', (∀ ty, (Builtin.clear_ #[22] ty #[.slice (some ⟨g, m * 2, none⟩) (n - m) c]).run Try.prog W = .ok (.tuple #[]) w') ∧ RowsOwn 24 2 verV w (l.take m) (.slice (some ⟨g, 0, none⟩) m cap) w' := by
  subst hn
  obtain ⟨w', r1, r2, r3⟩ := own_clear (P := Try.prog) h.1 hm Try.underlying22 zero_ver rfl (by decide) c
  refine ⟨w', r1, ?_, h.2.grown r3 h.2.size (fun k hk => ?_)⟩
  · have e : (l.flatMap verV).take (m * 2) = (l.take m).flatMap verV := by
      have hs : l.flatMap verV = (l.take m).flatMap verV ++ (l.drop m).flatMap verV := by rw [← List.flatMap_append, List.take_append_drop]
      rw [hs, List.take_left' (by rw [rows_len (k := 2) (f := verV) _ (fun _ _ => rfl), List.length_take]; omega)]
    rw [e] at r2
    have hl : (l.take m).length = m := by rw [List.length_take]; omega
    rw [hl]
    exact r2
  · injection hk with hk
    rw [← hk]
    exact (h.1.lt g rfl).1

set_option maxRecDepth 100000 in
theorem compact_done {l dk : List Ver.V} {m kk : Nat} (hm : m = l.length) (hd : dk.length = l.length) (h : Lib.CompInv l.toArray m kk dk.toArray) : dk.take kk = Lib.compact l := by
  subst hm
  have hk := h.lt
  have hlen : (Lib.compact l).length = kk := h.len
  apply List.ext_getElem?
  intro j
  by_cases hj : j < kk
  · rw [List.getElem?_take_of_lt hj]
    have := h.low j hj
    show dk[j]? = (Lib.compactUpTo l.toArray l.length)[j]?
    rw [this, ← getI_to dk.toArray (by simp; omega)]
  · rw [List.getElem?_take_eq_none (by omega), List.getElem?_eq_none (by omega)]

set_option maxRecDepth 100000 in
theorem compact_few (l : List Ver.V) (h : l.length < 2) : Lib.compact l = l := Lib.compact_all l (fun j hj => Lib.keeps_lt_one _ j (by omega))

set_option maxRecDepth 100000 in
set_option maxHeartbeats 6400000 in
theorem ver_compact {w wr : World} {v : Value} {l : List Ver.V} (h : RowsOwn 24 2 verV w l v wr) (hl : l.length ≤ 1000000) :
    Calls Try.prog 34 #[v] wr fun e w' => ∃ v', e = .returned v' ∧ RowsOwn 24 2 verV w (Lib.compact l) v' w' := by
  by_cases h2 : l.length < 2
  · have hfin := Lib.hid (compact_few l h2)
    obtain ⟨A, cap, rfl, hcap⟩ := (h.rows (fun _ _ => rfl)).parts
    have H := Lib.hid h
    have h2' : (l.length : Int) < 2 := by omega
    clear h
    go_enter Try.func34, Try.ntmps34
    go_wp2_with fail
    go_ret
    exact ⟨_, rfl, by rw [hfin.out]; exact H.out⟩
  · obtain ⟨g, cap, rfl, hg0, hgl⟩ := h.1.form (by omega)
    have hcap : l.length ≤ cap := by
      obtain ⟨A, c, e, hc⟩ := (h.rows (fun _ _ => rfl)).parts
      injection e with e1 e2 e3
      omega
    have h2' : ¬ (l.length : Int) < 2 := by omega
    have hl' : (l.length : Int) ≤ 1000000 := by omega
    have hcap' : (l.length : Int) ≤ (cap : Int) := by omega
    have hwhole : Hid (Lib.compact l = Lib.compactUpTo l.toArray l.length) := Lib.hid rfl
    have H := Lib.hid h
    clear h
    go_enter Try.func34, Try.ntmps34
    go_wp2_with fail
    go_loopw [3] (fun i W => ∃ k : Nat, 1 ≤ k ∧ k ≤ l.length ∧ i = .int .i64 (k : Int) ∧ Hid (∀ j, j < k → Lib.keeps l.toArray j = true) ∧ Hid (RowsOwn 24 2 verV w l (.slice (some ⟨g, 0, none⟩) l.length cap) W)) (fun i _ => l.length - (intOf i).toNat)
    case atStart => exact ⟨1, Nat.le_refl _, by omega, by go_num, Lib.hid (Lib.keeps_lt_one _), H⟩
    case round =>
      obtain ⟨k, hk1, hk, rfl, hall, hown⟩ := hrel
      by_cases hlt : k < l.length
      · obtain ⟨x, hx⟩ : ∃ x, l[k]? = some x := ⟨_, List.getElem?_eq_getElem hlt⟩
        obtain ⟨y, hy⟩ : ∃ y, l[k - 1]? = some y := ⟨_, List.getElem?_eq_getElem (by omega)⟩
        obtain ⟨c0, c1⟩ := Vrs.at (hown.out.rows (fun _ _ => rfl)) hx
        obtain ⟨d0, d1⟩ := Vrs.at (hown.out.rows (fun _ _ => rfl)) hy
        rw [Nat.zero_add] at c0 c1 d0 d1
        have hn1 : (k : Int) < (l.length : Int) := by omega
        have hk1' : (1 : Int) ≤ (k : Int) := by omega
        have KX : Hid (l.toArray[k]! = x ∧ l.toArray[k - 1]! = y) := Lib.hid ⟨getI_of hx, getI_of hy⟩
        by_cases hxy : x = y
        · subst hxy
          have hneg : Hid (Lib.keeps l.toArray k = false) := Lib.hid (Lib.keeps_neg (by omega) (by rw [KX.out.1, KX.out.2]))
          have hst := Lib.hid (Lib.CompInv.start hall.out hneg.out)
          obtain ⟨x1, x2⟩ := x
          simp only at c0 c1 d0 d1
          clear hx hy hall hneg
          go_wp2_with fail
          go_quiet (fail)
          have hown2 : Hid (RowsOwn 24 2 verV w l (.slice (some ⟨g, 0, none⟩) l.length cap) (wr.drewN nq)) := Lib.hid (hown.out.below (ver_drews _ _))
          generalize wr.drewN nq = W at *
          clear c0 c1 d0 d1 hown
          go_wp2_with fail
          go_loopw [3, 5] (fun s3 s5 W2 => ∃ (kk k2 : Nat) (dk : List Ver.V), s3 = .int .i64 (kk : Int) ∧ s5 = .int .i64 (k2 : Int) ∧ 1 ≤ k2 ∧ k + k2 ≤ l.length ∧ kk < k + k2 ∧ dk.length = l.length ∧ Hid (Lib.CompInv l.toArray (k + k2) kk dk.toArray) ∧ Hid (RowsOwn 24 2 verV w dk (.slice (some ⟨g, 0, none⟩) dk.length cap) W2)) (fun _ s5 _ => l.length - (intOf s5).toNat)
          case atStart => exact ⟨k, 1, l, rfl, by go_num, Nat.le_refl _, by omega, by omega, rfl, hst, hown2⟩
          case round =>
            obtain ⟨kk, k2, dk, rfl, rfl, h1, hle, hkk, hdl, hI, hrow⟩ := hrel
            have hk2' : (1 : Int) ≤ (k2 : Int) := by omega
            by_cases hlt2 : k + k2 < l.length
            · obtain ⟨x, hx⟩ : ∃ x, dk[k + k2]? = some x := ⟨_, List.getElem?_eq_getElem (by omega)⟩
              obtain ⟨y, hy⟩ : ∃ y, dk[k + k2 - 1]? = some y := ⟨_, List.getElem?_eq_getElem (by omega)⟩
              obtain ⟨z, hz⟩ : ∃ z, dk[kk]? = some z := ⟨_, List.getElem?_eq_getElem (by omega)⟩
              have CL : Hid (∀ U : World, Hid (RowsOwn 24 2 verV w dk (.slice (some ⟨g, 0, none⟩) dk.length cap) U) → (U.cell? ⟨g, k * 2 + k2 * 2, none⟩ = some (.int .i64 x.by_) ∧ U.cell? ⟨g, k * 2 + k2 * 2 + 1, none⟩ = some (.int .i64 x.n)) ∧ U.cell? ⟨g, k * 2 + (k2 - 1) * 2, none⟩ = some (.int .i64 y.by_) ∧ U.cell? ⟨g, k * 2 + (k2 - 1) * 2 + 1, none⟩ = some (.int .i64 y.n)) := Lib.hid (fun U hU => by
                have a := Vrs.at (hU.out.rows (fun _ _ => rfl)) hx
                have b := Vrs.at (hU.out.rows (fun _ _ => rfl)) hy
                rw [Nat.zero_add] at a b
                rw [show (k + k2) * 2 = k * 2 + k2 * 2 by omega] at a
                rw [show (k + k2 - 1) * 2 = k * 2 + (k2 - 1) * 2 by omega] at b
                exact ⟨a, b⟩)
              have CZ : Hid (∀ U : World, Hid (RowsOwn 24 2 verV w dk (.slice (some ⟨g, 0, none⟩) dk.length cap) U) → (U.cell? ⟨g, kk * 2, none⟩ = some (.int .i64 z.by_) ∧ U.cell? ⟨g, kk * 2 + 1, none⟩ = some (.int .i64 z.n)) ∧ U.frozen? ⟨g, kk * 2, none⟩ = false ∧ U.frozen? ⟨g, kk * 2 + 1, none⟩ = false) := Lib.hid (fun U hU => by
                have a := Vrs.at (hU.out.rows (fun _ _ => rfl)) hz
                rw [Nat.zero_add] at a
                exact ⟨a, hU.out.1.frozenAt _, hU.out.1.frozenAt _⟩)
              have KX : Hid (l.toArray[k + k2]! = x ∧ l.toArray[k + k2 - 1]! = y) := Lib.hid ⟨(hI.out.high _ (by omega)).symm.trans (getI_of hx), (hI.out.high _ (by omega)).symm.trans (getI_of hy)⟩
              obtain ⟨⟨c0, c1⟩, d0, d1⟩ := CL.out _ hrow
              have hn1 : (k2 : Int) < (l.length : Int) - (k : Int) := by omega
              have hn2 : (k2 : Int) - 1 < (l.length : Int) - (k : Int) := by omega
              have hkl : (kk : Int) < (l.length : Int) := by omega
              have hkk0 : (0 : Int) ≤ (kk : Int) := by omega
              clear hx hy hz
              by_cases hxy : x = y
              · subst hxy
                have hneg : Hid (Lib.keeps l.toArray (k + k2) = false) := Lib.hid (Lib.keeps_neg (by omega) (by rw [KX.out.1, KX.out.2]))
                have hnext : Hid (Lib.CompInv l.toArray (k + (k2 + 1)) kk dk.toArray) := Lib.hid (hI.out.skip hneg.out)
                obtain ⟨x1, x2⟩ := x
                simp only at c0 c1 d0 d1
                clear hneg
                go_wp2_with fail
                go_quiet (fail)
                have hrow2 : Hid (RowsOwn 24 2 verV w dk (.slice (some ⟨g, 0, none⟩) dk.length cap) (wr.drewN nq)) := Lib.hid (hrow.out.below (ver_drews _ _))
                go_wp2_with fail
                exact ⟨⟨kk, k2 + 1, dk, rfl, by go_num, by omega, by omega, by omega, hdl, hnext, hrow2⟩, by show l.length - ((k2 : Int) + 1).toNat < l.length - (k2 : Int).toNat; omega⟩
              · have hpos : Hid (Lib.keeps l.toArray (k + k2) = true) := Lib.hid (Lib.keeps_pos (by rw [KX.out.1, KX.out.2]; exact hxy))
                have hnext : Hid (Lib.CompInv l.toArray (k + (k2 + 1)) (kk + 1) (dk.set kk x).toArray) := Lib.hid (by
                  have := hI.out.keep (by simpa using hlt2) hpos.out
                  rw [KX.out.1, List.setIfInBounds_toArray] at this
                  exact this)
                have hset : Hid (∀ U, RowsOwn 24 2 verV w dk (.slice (some ⟨g, 0, none⟩) dk.length cap) U → Hid (RowsOwn 24 2 verV w (dk.set kk x) (.slice (some ⟨g, 0, none⟩) (dk.set kk x).length cap) ((U.setCell ⟨g, kk * 2, none⟩ (.int .i64 x.by_)).setCell ⟨g, kk * 2 + 1, none⟩ (.int .i64 x.n)))) := Lib.hid (fun U hU => Lib.hid (by rw [List.length_set]; exact hU.putAt kk x))
                obtain ⟨x1, x2⟩ := x
                obtain ⟨y1, y2⟩ := y
                obtain ⟨z1, z2⟩ := z
                simp only at c0 c1 d0 d1
                have hxy' : x1 = y1 → ¬ x2 = y2 := fun h k => hxy (by rw [h, k])
                clear hpos hxy KX
                by_cases h1' : x1 = y1
                · have h2' := hxy' h1'
                  subst h1'
                  clear hxy'
                  go_wp2_with fail
                  go_quiet (fail)
                  have hrow2 : Hid (RowsOwn 24 2 verV w dk (.slice (some ⟨g, 0, none⟩) dk.length cap) (wr.drewN nq)) := Lib.hid (hrow.out.below (ver_drews _ _))
                  generalize wr.drewN nq = W at *
                  clear c0 c1 d0 d1
                  obtain ⟨⟨c0, c1⟩, -, -⟩ := CL.out _ hrow2
                  obtain ⟨⟨e0, e1⟩, f0, f1⟩ := CZ.out _ hrow2
                  have HS := hset.out _ hrow2.out
                  have e1' : ∀ u, (W.setCell ⟨g, kk * 2, none⟩ u).cell? ⟨g, kk * 2 + 1, none⟩ = some (.int .i64 z2) := fun u => (World.cell?_setCell_other _ _ _ _ (by simp)).trans e1
                  have f1' : ∀ u, (W.setCell ⟨g, kk * 2, none⟩ u).frozen? ⟨g, kk * 2 + 1, none⟩ = false := fun u => (World.frozen?_setCell _ _ _ _).trans f1
                  go_wp2_with fail
                  exact ⟨⟨kk + 1, k2 + 1, _, by go_num, by go_num, by omega, by omega, by omega, by rw [List.length_set]; exact hdl, hnext, HS⟩, by show l.length - ((k2 : Int) + 1).toNat < l.length - (k2 : Int).toNat; omega⟩
                · clear hxy'
                  go_wp2_with fail
                  go_quiet (fail)
                  have hrow2 : Hid (RowsOwn 24 2 verV w dk (.slice (some ⟨g, 0, none⟩) dk.length cap) (wr.drewN nq)) := Lib.hid (hrow.out.below (ver_drews _ _))
                  generalize wr.drewN nq = W at *
                  clear c0 c1 d0 d1
                  obtain ⟨⟨c0, c1⟩, -, -⟩ := CL.out _ hrow2
                  obtain ⟨⟨e0, e1⟩, f0, f1⟩ := CZ.out _ hrow2
                  have HS := hset.out _ hrow2.out
                  have e1' : ∀ u, (W.setCell ⟨g, kk * 2, none⟩ u).cell? ⟨g, kk * 2 + 1, none⟩ = some (.int .i64 z2) := fun u => (World.cell?_setCell_other _ _ _ _ (by simp)).trans e1
                  have f1' : ∀ u, (W.setCell ⟨g, kk * 2, none⟩ u).frozen? ⟨g, kk * 2 + 1, none⟩ = false := fun u => (World.frozen?_setCell _ _ _ _).trans f1
                  go_wp2_with fail
                  exact ⟨⟨kk + 1, k2 + 1, _, by go_num, by go_num, by omega, by omega, by omega, by rw [List.length_set]; exact hdl, hnext, HS⟩, by show l.length - ((k2 : Int) + 1).toNat < l.length - (k2 : Int).toNat; omega⟩
            · have hend : k + k2 = l.length := by omega
              have hm : kk < l.length := by omega
              obtain ⟨W', hcl, hout⟩ := RowsOwn.cleared (n := l.length) (m := kk) (by have := hrow.out; rwa [hdl] at this) hdl hm (cap - kk)
              have hfin : Hid (dk.take kk = Lib.compact l) := Lib.hid (compact_done hend hdl hI.out)
              have HO := Lib.hid hout
              have hkl : (kk : Int) < (l.length : Int) := by omega
              have hkk0 : (0 : Int) ≤ (kk : Int) := by omega
              have hkc : (kk : Int) ≤ (cap : Int) := by omega
              clear hout
              go_wp2_with fail
              go_ret
              exact ⟨_, rfl, by rw [← hfin.out]; exact HO.out⟩
        · have hpos : Hid (∀ j, j < k + 1 → Lib.keeps l.toArray j = true) := Lib.hid (fun j hj => by
            by_cases e : j = k
            · subst e
              exact Lib.keeps_pos (by rw [KX.out.1, KX.out.2]; exact hxy)
            · exact hall.out j (by omega))
          obtain ⟨x1, x2⟩ := x
          obtain ⟨y1, y2⟩ := y
          simp only at c0 c1 d0 d1
          have hxy' : x1 = y1 → ¬ x2 = y2 := fun h k => hxy (by rw [h, k])
          clear hx hy hall hxy KX
          by_cases h1 : x1 = y1
          · have h2 := hxy' h1
            subst h1
            clear hxy'
            go_wp2_with fail
            go_quiet (fail)
            go_wp2_with fail
            exact ⟨⟨k + 1, by omega, by omega, by go_num, hpos, Lib.hid (hown.out.below (ver_drews _ _))⟩, by show l.length - ((k : Int) + 1).toNat < l.length - (k : Int).toNat; omega⟩
          · clear hxy'
            go_wp2_with fail
            go_quiet (fail)
            go_wp2_with fail
            exact ⟨⟨k + 1, by omega, by omega, by go_num, hpos, Lib.hid (hown.out.below (ver_drews _ _))⟩, by show l.length - ((k : Int) + 1).toNat < l.length - (k : Int).toNat; omega⟩
      · obtain rfl : k = l.length := by omega
        have hfin : Hid (Lib.compact l = l) := Lib.hid (Lib.compact_all l hall.out)
        clear hall
        go_wp2_with fail
        go_ret
        exact ⟨_, rfl, by rw [hfin.out]; exact hown.out⟩
end Go.Proofs.Ytnpnjophlajfkaa
