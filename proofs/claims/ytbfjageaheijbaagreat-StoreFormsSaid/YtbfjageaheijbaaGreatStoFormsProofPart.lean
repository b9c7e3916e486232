/- Which records are transactions: StoreForms's statement holds. -/
import Derived.Test.YtbfjageaheijbaaGreatCom12
import Derived.Test.YtbfjageaheijbaaGreatCom16
import Derived.Test.YtbfjageaheijbaaGreatCom17
import Derived.Test.YtbfjageaheijbaaGreatCom40
/- Which records are transactions: StoreForms out of the contracts. -/
namespace Go.Proofs.YtbfjageaheijbaaGreat
open Go.RowKit Dsk Jnl

section
variable {At : World → (Nat → Prop) → Value → D → Prop} {Own : World → (Nat → Prop) → Value → Value → Nat → Sto.Sr → Prop} {JOwn : World → (Nat → Prop) → Value → Value → Nat → J → Prop}

set_option maxRecDepth 100000 in
theorem second_mk (r : List UInt8) (W : World) (h : r.length ≤ 1000) : Calls Tryz.prog 28 #[.string (mk r)] W (SecondIs (Leb.second r).1 (Leb.second r).2.1 (Leb.second r).2.2 W) := by
  have := ref_second (mk r) W (by rw [mk_len]; omega)
  rw [mk_data] at this
  exact this

set_option maxRecDepth 100000 in
theorem first_mk (r : List UInt8) (W : World) (h : r.length ≤ 1000) : Calls Tryz.prog 29 #[.string (mk r)] W (TripleIs (Leb.first r).1 (Leb.first r).2.1 (Leb.first r).2.2 W) := by
  have := ref_first (mk r) W (by rw [mk_len]; omega)
  rw [mk_data] at this
  exact this

set_option maxRecDepth 100000 in
theorem mk_cut (r : List UInt8) (k : Nat) : (mk r).extract k (mk r).size = mk (r.drop k) := bytes_ext (by
  rw [Lib.extract_data, mk_data, mk_len, mk_data, ← List.length_drop, List.take_length])

/-- What Open answers to a record: a store, or an error. -/
def OpenIs (W : World) (ok : Bool) (e : Ending) (w' : World) : Prop := (∃ v, e = .returned (.tuple #[v, .int .i64 (if ok then 0 else 6)]) ∧ (if ok then ∃ p, v = .pointer (some p) else v = .pointer none)) ∧ Below W.heap.size W w'

set_option maxRecDepth 100000 in
/-- What a record's journal answers when it is opened as a store. -/
theorem open_rec (H : StoreOk At Own) {W w : World} {Z : Nat → Prop} {dv : Value} {d : D} {j : J} {rec : List UInt8} {N : Nat} (h : Dw At W Z dv d w) (hl : Live 60 d j [rec]) (hf : d.Fine N) (hN : N ≤ 100000) :
    Calls Tryz.prog 10 #[dv, .int .i64 100] w (OpenIs W (Sto.parse rec).isSome) := by
  obtain ⟨⟨F, k1, k4⟩, k6, k7⟩ := h
  have hs := live_sound hl hf (by decide)
  cases hr : Sto.run [] [rec] with
  | none =>
    have e : (Sto.parse rec).isSome = false := by rw [← Sto.run_one, hr]; rfl
    rw [e]
    refine (H.form k1 hs hN hl.up (hl.opens (by decide)) hr (by decide) (by decide)).mono ?_
    rintro e w' ⟨rfl, -, g2⟩
    exact ⟨⟨_, rfl, rfl⟩, below_kept k6 g2 (fun i hi => (k4 i hi).1)⟩
  | some vals =>
    have e : (Sto.parse rec).isSome = true := by rw [← Sto.run_one, hr]; rfl
    rw [e]
    refine (H.opened k1 hs hN hl.up (hl.opens (by decide)) hr (by decide) (by decide)).mono ?_
    rintro e w' ⟨sv, rfl, g1, g2⟩
    exact ⟨⟨_, rfl, g1.ptr H⟩, below_kept k6 g2 (fun i hi => (k4 i hi).1)⟩

set_option maxRecDepth 100000 in
theorem jw_disk {W w : World} {Z : Nat → Prop} {dv jv : Value} {n : Nat} {d : D} {j : J} (h : Jw At JOwn W Z dv jv n d j w) : Dw At W Z dv d w := by
  obtain ⟨⟨F, ⟨F1, F2, h1, h2, h3, h4, h5⟩, k⟩, h6, h7⟩ := h
  exact ⟨⟨F1, h1, fun i hi => k i (h4 i hi)⟩, h6, h7⟩

set_option maxRecDepth 100000 in
theorem one_cells (w : World) (t : List UInt8) : Cells (w.alloc (.cells #[.string (mk t)] 9)) (fun i => i = w.heap.size) (.slice (some ⟨w.heap.size, 0, none⟩) 1 1) (texts [t]) :=
  ⟨some ⟨w.heap.size, 0, none⟩, 1, rfl, Nat.le_refl _, fun _ => ⟨w.heap.size, 0, rfl, rfl, by simp, fun i u hu => by
    rw [(Row.made w _ _).at]
    match i, hu with
    | 0, hu => simp [texts] at hu; subst hu; rfl⟩⟩

set_option maxRecDepth 100000 in
theorem below_eight {W a b c d e f g h i : World} (k0 : Below W.heap.size W a) (k1 : Below a.heap.size a b) {o : Obj} (k2 : Below (b.alloc o).heap.size (b.alloc o) c) (k3 : Below c.heap.size c d) (k4 : Below d.heap.size d e) (k5 : Below e.heap.size e f) (k6 : Below f.heap.size f g) (k7 : Below g.heap.size g h) (k8 : Below h.heap.size h i) : Below W.heap.size W i := by
  have s0 := k0.size
  have s1 := k1.size
  have s2 := k2.size
  have s3 := k3.size
  have s4 := k4.size
  have s5 := k5.size
  have s6 := k6.size
  have s7 := k7.size
  have e1 : (b.alloc o).heap.size = b.heap.size + 1 := by simp
  rw [e1] at s2
  have r1 := k0.trans (k1.mono s0)
  have r2 := (r1.alloc (by omega) o).trans (k2.mono (by rw [e1]; omega))
  exact (((((r2.trans (k3.mono (by omega))).trans (k4.mono (by omega))).trans (k5.mono (by omega))).trans (k6.mono (by omega))).trans (k7.mono (by omega))).trans (k8.mono (by omega))

def szIn : Value → Nat | .string b => b.size | _ => 0
def boolIn : Value → Nat | .bool true => 1 | _ => 0

set_option maxRecDepth 100000 in
set_option maxHeartbeats 6400000 in
theorem forms_walk (U : DiskUse At) (J : JournalOk At JOwn) (H : StoreOk At Own) (rec : ByteArray) (W : World) (h63 : rec.size ≤ 9223372036854775807) :
    Calls Tryz.prog 6 #[.string rec] W fun e w' => e = .returned (.bool true) ∧ Below W.heap.size W w' := by
  obtain ⟨rec, rfl⟩ : ∃ r, rec = mk r := ⟨_, (mk_of rec).symm⟩
  obtain ⟨f1, l1⟩ := format_new (n := 60) (by decide)
  have fin1 : (Jnl.format (Dsk.new 60)).2.Fine 3 := (format_fine (new_fine 60 (by decide))).mono (by decide)
  have cal1 : Calm (Jnl.format (Dsk.new 60)).2 := calm_format (calm_new 60)
  have C0 := Lib.hid (dw_new U 60 W (by decide) (by decide))
  have C1 : Hid (∀ w p, Dw At W (fun _ => False) (.pointer (some p)) (Dsk.new 60) w → Calls Tryz.prog 8 #[.pointer (some p)] w fun e w' => e = .returned (.int .i64 0) ∧ Dw At W (fun _ => False) (.pointer (some p)) (Jnl.format (Dsk.new 60)).2 w' ∧ SameZ (fun _ => False) w w') :=
    Lib.hid (fun W p h => store_format U H (by decide) (by decide) h)
  have C1b : Hid (∀ w p, Dw At W (fun _ => False) (.pointer (some p)) (Jnl.format (Dsk.new 60)).2 w → Calls Tryz.prog 9 #[] w fun e w' => e = .returned (.bool true) ∧ Dw At W (fun _ => False) (.pointer (some p)) (Jnl.format (Dsk.new 60)).2 w') :=
    Lib.hid (fun w p h => (sto_awake U H w).mono (by rintro e w' ⟨rfl, k⟩; exact ⟨rfl, (h.below U k).1⟩))
  by_cases hbig : 1000 < rec.length
  · have hb1 : decide (((mk rec).size : Int) > 1000) = true := by rw [mk_len]; simp; omega
    have hb2 : (1000 : Int) < ((mk rec).size : Int) := by rw [mk_len]; omega
    clear hbig f1 l1 fin1 cal1
    generalize (Jnl.format (Dsk.new 60)).2 = d1 at *
    generalize mk rec = y at *
    go_enter Tryz.func6, Tryz.ntmps6
    go_wp2_with fail
    refine C0.out.mono ?_
    rintro e w1 ⟨p, rfl, h1⟩
    have H1 := Lib.hid h1
    clear h1
    go_wp2_with fail
    refine (C1.out _ _ H1.out).mono ?_
    rintro e w2 ⟨rfl, h2, -⟩
    have H2 := Lib.hid h2
    clear h2 H1
    go_wp2_with fail
    refine (C1b.out _ _ H2.out).mono ?_
    rintro e w2b ⟨rfl, h2⟩
    have H2b := Lib.hid h2
    clear h2 H2
    go_wp2_with fail
    refine (C1b.out _ _ H2b.out).mono ?_
    rintro e w3 ⟨rfl, h3⟩
    have H3 := Lib.hid h3
    clear h3 H2b
    go_wp2_with fail
    go_ret
    exact ⟨rfl, H3.out.bel⟩
  · have hb1 : decide (((mk rec).size : Int) > 1000) = false := by rw [mk_len]; simp; omega
    have hb2 : ¬ (1000 : Int) < ((mk rec).size : Int) := by rw [mk_len]; omega
    have hrl : rec.length ≤ 1000 := by omega
    have hal : (Frm.all [rec]).length ≤ 1013 := by
      have := all_le 1000 [rec] (fun t ht => by rw [List.mem_singleton.1 ht]; exact hrl)
      simpa using this
    have hsm : ∀ t ∈ [rec], t.length < 9223372036854775808 := fun t ht => by rw [List.mem_singleton.1 ht]; omega
    obtain ⟨r1, l2, -⟩ := append_room l1 cal1 (by decide) (by decide) (by decide) (a := [rec]) (by omega) hsm (by have e : hof 60 = 29 := rfl; show 0 + _ ≤ _; omega)
    have fin2 := append_fine (n := 60) (j := ⟨1, 0, [], false⟩) (a := [rec]) fin1
    have C2 : Hid (∀ w p, Dw At W (fun _ => False) (.pointer (some p)) (Jnl.format (Dsk.new 60)).2 w → Calls Tryz.prog 26 #[.pointer (some p)] w fun e w' => ∃ q A c, e = .returned (.tuple #[.pointer (some q), .slice A 0 c, .int .i64 0]) ∧ Jw At JOwn W (fun _ => False) (.pointer (some p)) (.pointer (some q)) 60 (Jnl.format (Dsk.new 60)).2 ⟨1, 0, [], false⟩ w') := Lib.hid (fun w p h => by
      refine (h.opened U J l1 fin1 (by decide) (by decide)).mono ?_
      rintro e w' ⟨q, lv, G, rfl, k1, ⟨A, c, rfl, -, -⟩, -, -⟩
      exact ⟨q, A, c, rfl, k1.more U J (Below.refl _ _) (fun i hi => hi.elim)⟩)
    have C3 : Hid (∀ w p q, Jw At JOwn W (fun _ => False) (.pointer (some p)) (.pointer (some q)) 60 (Jnl.format (Dsk.new 60)).2 ⟨1, 0, [], false⟩ w → Calls Tryz.prog 27 #[.pointer (some q), .slice (some ⟨w.heap.size, 0, none⟩) 1 1] (w.alloc (.cells #[.string (mk rec)] 9)) fun e w' =>
        e = .returned (.int .i64 0) ∧ Dw At W (fun i => i = w.heap.size) (.pointer (some p)) (Jnl.append 60 (Jnl.format (Dsk.new 60)).2 ⟨1, 0, [], false⟩ [rec]).2.1 w') := Lib.hid (fun w p q h => by
      have hb := h.more U J (w' := w.alloc (.cells #[.string (mk rec)] 9)) ((Below.refl _ _).alloc (Nat.le_refl _) _) (Y := fun i => i = w.heap.size) (fun i hi => Or.inr (by subst hi; simp))
      rw [← r1]
      refine (hb.call (fun F hF hz => J.append hF (live_sound l1 fin1 (by decide)) (by decide) (Or.inr ⟨l1.toHeld, by decide⟩) (one_cells w rec) (fun k hk hf => hz k hf hk) (by simp) (fun t ht => by rw [List.mem_singleton.1 ht]; omega))).mono ?_
      rintro e w' ⟨rfl, k1, -⟩
      exact ⟨rfl, jw_disk k1⟩)
    have C4 : Hid (∀ w p Z, Dw At W Z (.pointer (some p)) (Jnl.append 60 (Jnl.format (Dsk.new 60)).2 ⟨1, 0, [], false⟩ [rec]).2.1 w → Calls Tryz.prog 10 #[.pointer (some p), .int .i64 100] w (OpenIs W (Sto.parse rec).isSome)) := Lib.hid (fun w p Z h => open_rec H h l2 fin2 (by have e : hof 60 = 29 := rfl; omega))
    have hstart : Hid (Sto.Left rec (!(mk rec).toList.isEmpty) rec) := Lib.hid (by
      have h := Sto.left_start rec
      have e : decide (rec ≠ []) = !(mk rec).toList.isEmpty := by
        rw [Lib.toList_data, mk_data]
        cases rec <;> rfl
      rw [e] at h
      exact h)
    clear f1 l1 fin1 cal1 hal hsm r1 l2 fin2 hbig
    generalize (Jnl.append 60 (Jnl.format (Dsk.new 60)).2 ⟨1, 0, [], false⟩ [rec]).2.1 = d2 at *
    generalize (Jnl.format (Dsk.new 60)).2 = d1 at *
    go_enter Tryz.func6, Tryz.ntmps6
    go_wp2_with fail
    refine C0.out.mono ?_
    rintro e w1 ⟨p, rfl, h1⟩
    have H1 := Lib.hid h1
    clear h1
    go_wp2_with fail
    refine (C1.out _ _ H1.out).mono ?_
    rintro e w2 ⟨rfl, h2, -⟩
    have H2 := Lib.hid h2
    clear h2 H1
    go_wp2_with fail
    refine (C1b.out _ _ H2.out).mono ?_
    rintro e w2b ⟨rfl, h2⟩
    have H2b := Lib.hid h2
    clear h2 H2
    go_wp2_with fail
    refine (C2.out _ _ H2b.out).mono ?_
    rintro e w3 ⟨q, A, c, rfl, h3⟩
    have H3 := Lib.hid h3
    clear h3 H2b
    go_wp2_with fail
    refine (C3.out _ _ _ H3.out).mono ?_
    rintro e w4 ⟨rfl, h4⟩
    have H4 := Lib.hid h4
    clear h4 H3 C0 C1 C1b C2 C3
    generalize hrz : w3.heap.size = z3 at *
    go_wp2_with fail
    have hz4 := H4
    obtain ⟨w0, hw0⟩ : ∃ w0 : World, w0 = w4 := ⟨_, rfl⟩
    go_loopw [8, 9] (fun ok y wr => ∃ (r : List UInt8) (b : Bool), ok = .bool b ∧ y = .string (mk r) ∧ r.length ≤ 1000 ∧ Sto.Left rec b r ∧ wr = w4) (fun ok y _ => szIn y + boolIn ok)
    case atStart => exact ⟨rec, _, rfl, rfl, hrl, hstart.out, rfl⟩
    case round =>
      obtain ⟨r, b, rfl, rfl, hr1000, hleft, rfl⟩ := hrel
      clear hstart
      have Hleft := Lib.hid hleft
      clear hleft
      by_cases hgo : b = true ∧ r ≠ []
      · obtain ⟨rfl, hne⟩ := hgo
        have g1 : ((mk r).toList != []) = true := by rw [bne_iff_ne, Lib.toList_data, mk_data]; exact hne
        have g2 : (mk r).toList.isEmpty = false := by rw [List.isEmpty_eq_false_iff, Lib.toList_data, mk_data]; exact hne
        have hn := Sto.second_fits r
        have hm := Leb.first_fits (r.drop (Leb.second r).2.1)
        have hx := Sto.second_fits (r.drop ((Leb.second r).2.1 + (Leb.first (r.drop (Leb.second r).2.1)).2.1))
        rw [List.length_drop] at hm hx
        have S1 : Hid (∀ W, Calls Tryz.prog 28 #[.string (mk r)] W (fun e w' => e = .returned (.tuple #[.string (mk (Leb.second r).1), .int .i64 (Leb.second r).2.1, .int .i64 (Leb.second r).2.2]) ∧ W = w')) := Lib.hid (fun W => second_mk r W hr1000)
        have S2 : Hid (∀ W, Calls Tryz.prog 29 #[.string (mk (r.drop (Leb.second r).2.1))] W (fun e w' => e = .returned (.tuple #[.int .i64 (Leb.first (r.drop (Leb.second r).2.1)).1, .int .i64 (Leb.first (r.drop (Leb.second r).2.1)).2.1, .int .i64 (Leb.first (r.drop (Leb.second r).2.1)).2.2]) ∧ W = w')) := Lib.hid (fun W => first_mk _ W (by rw [List.length_drop]; omega))
        have S3 : Hid (∀ W, Calls Tryz.prog 28 #[.string (mk (r.drop ((Leb.second r).2.1 + (Leb.first (r.drop (Leb.second r).2.1)).2.1)))] W (fun e w' => e = .returned (.tuple #[.string (mk (Leb.second (r.drop ((Leb.second r).2.1 + (Leb.first (r.drop (Leb.second r).2.1)).2.1))).1), .int .i64 (Leb.second (r.drop ((Leb.second r).2.1 + (Leb.first (r.drop (Leb.second r).2.1)).2.1))).2.1, .int .i64 (Leb.second (r.drop ((Leb.second r).2.1 + (Leb.first (r.drop (Leb.second r).2.1)).2.1))).2.2]) ∧ W = w')) := Lib.hid (fun W => second_mk _ W (by rw [List.length_drop]; omega))
        have U1 := mk_cut r (Leb.second r).2.1
        have U2 := mk_cut r ((Leb.second r).2.1 + (Leb.first (r.drop (Leb.second r).2.1)).2.1)
        have U3 := mk_cut r ((Leb.second r).2.1 + ((Leb.first (r.drop (Leb.second r).2.1)).2.1 + (Leb.second (r.drop ((Leb.second r).2.1 + (Leb.first (r.drop (Leb.second r).2.1)).2.1))).2.1))
        have hbad : Hid (Sto.one r = none → Sto.Left rec false r) := Lib.hid (fun h => Sto.left_none Hleft.out hne h)
        have hgood : Hid (∀ k, (∃ c, Sto.one r = some (c, k)) → Sto.Left rec true (r.drop k) ∧ (r.drop k).length < r.length) := Lib.hid (fun k h => ⟨Sto.left_some Hleft.out hne h, by
          obtain ⟨c, h⟩ := h
          have := Sto.one_fits h
          rw [List.length_drop]
          omega⟩)
        have d1 := @Sto.one_bad r
        have d2' := @Sto.one_gone r
        have d3 := @Sto.one_val r
        have d4 := @Sto.one_not r
        have hrs : ((mk r).size : Int) ≤ 1000 := by rw [mk_len]; omega
        have hn1 : ((Leb.second r).2.1 : Int) ≤ ((mk r).size : Int) := by rw [mk_len]; omega
        have hnm : (((Leb.second r).2.1 + (Leb.first (r.drop (Leb.second r).2.1)).2.1 : Nat) : Int) ≤ ((mk r).size : Int) := by rw [mk_len]; omega
        have hnmx : (((Leb.second r).2.1 + ((Leb.first (r.drop (Leb.second r).2.1)).2.1 + (Leb.second (r.drop ((Leb.second r).2.1 + (Leb.first (r.drop (Leb.second r).2.1)).2.1))).2.1) : Nat) : Int) ≤ ((mk r).size : Int) := by rw [mk_len]; omega
        have hK : (mk (Leb.second r).1).size = (Leb.second r).1.length := mk_len _
        have hV : (mk (Leb.second (r.drop ((Leb.second r).2.1 + (Leb.first (r.drop (Leb.second r).2.1)).2.1))).1).size = (Leb.second (r.drop ((Leb.second r).2.1 + (Leb.first (r.drop (Leb.second r).2.1)).2.1))).1.length := mk_len _
        clear hn hm hx
        generalize (Leb.second (r.drop ((Leb.second r).2.1 + (Leb.first (r.drop (Leb.second r).2.1)).2.1))).1 = v at *
        generalize (Leb.second (r.drop ((Leb.second r).2.1 + (Leb.first (r.drop (Leb.second r).2.1)).2.1))).2.1 = x at *
        generalize (Leb.second (r.drop ((Leb.second r).2.1 + (Leb.first (r.drop (Leb.second r).2.1)).2.1))).2.2 = c' at *
        generalize (Leb.first (r.drop (Leb.second r).2.1)).1 = g at *
        generalize (Leb.first (r.drop (Leb.second r).2.1)).2.1 = m at *
        generalize (Leb.first (r.drop (Leb.second r).2.1)).2.2 = b' at *
        generalize (Leb.second r).1 = k at *
        generalize (Leb.second r).2.1 = n at *
        generalize (Leb.second r).2.2 = a' at *
        have e1 : IntKind.i64.wrap ((n : Int) + (m : Int)) = (n : Int) + (m : Int) := IntWalk.i64_in _ ⟨by omega, by omega⟩
        by_cases hall : a' = 0 ∧ b' = 0 ∧ g ≤ 1 ∧ 1 ≤ k.length ∧ k.length ≤ 32
        · have q1 : (a' == 0) = true := by rw [hall.1]; rfl
          have q2 : (b' == 0) = true := by rw [hall.2.1]; rfl
          have q3 : decide ((g : Int) ≤ 1) = true := by have := hall.2.2.1; simpa using (by omega : (g : Int) ≤ 1)
          have q4 : decide ((1 : Int) ≤ ((mk k).size : Int)) = true := by rw [hK]; have := hall.2.2.2.1; simpa using (by omega : (1 : Int) ≤ k.length)
          have q5 : decide (((mk k).size : Int) ≤ 32) = true := by rw [hK]; have := hall.2.2.2.2; simpa using (by omega : (k.length : Int) ≤ 32)
          have f1 : (n : Int) + (m : Int) ≤ ((mk r).size : Int) := by omega
          have f2 : (0 : Int) ≤ (n : Int) + (m : Int) := by omega
          have f3 : ((n : Int) + (m : Int)).toNat = n + m := by omega
          by_cases hg1 : g = 1
          · have hg0 : ((g : Int) == 0) = false := by rw [hg1]; rfl
            obtain ⟨hL, hlt⟩ := hgood.out _ (d2' hall hg1)
            have HL := Lib.hid hL
            have Hlt := Lib.hid hlt
            have hl2 : Hid ((r.drop (n + m)).length ≤ 1000) := Lib.hid (by rw [List.length_drop]; omega)
            have hsz : (mk (r.drop (n + m))).size = (r.drop (n + m)).length := mk_len _
            have hsy : (mk r).size = r.length := mk_len _
            have Hsz := Lib.hid (show (mk (r.drop (n + m))).size < (mk r).size by rw [hsz, hsy]; exact hlt)
            clear hbad hgood d1 d2' d3 d4 hall U3 S3 hnmx hV hK hL hlt hsz hsy hg1
            generalize hy2 : mk (r.drop (n + m)) = y2 at *
            generalize mk (r.drop n) = y1 at *
            generalize mk k = kk at *
            generalize hy : mk r = y at *
            go_wp2_with (first
              | (go_at_call 28; refine (S1.out _).mono ?_; rintro e w' ⟨rfl, rfl⟩)
              | (go_at_call 29; refine (S2.out _).mono ?_; rintro e w' ⟨rfl, rfl⟩))
            refine ⟨⟨r.drop (n + m), true, rfl, by rw [hy2], hl2.out, HL.out, by first | rfl | trivial⟩, ?_⟩
            show szIn (.string y2) + boolIn (.bool true) < szIn (.string y) + boolIn (.bool true)
            show y2.size + 1 < y.size + 1
            have := Hsz.out
            omega
          · have hg0 : ((g : Int) == 0) = true := by have := hall.2.2.1; rw [beq_iff_eq]; omega
            have e2 : IntKind.i64.wrap ((m : Int) + (x : Int)) = (m : Int) + (x : Int) := IntWalk.i64_in _ ⟨by omega, by omega⟩
            have e3 : IntKind.i64.wrap ((n : Int) + ((m : Int) + (x : Int))) = (n : Int) + ((m : Int) + (x : Int)) := IntWalk.i64_in _ ⟨by omega, by omega⟩
            have f4 : (n : Int) + ((m : Int) + (x : Int)) ≤ ((mk r).size : Int) := by omega
            have f5 : (0 : Int) ≤ (n : Int) + ((m : Int) + (x : Int)) := by omega
            have f6 : ((n : Int) + ((m : Int) + (x : Int))).toNat = n + (m + x) := by omega
            by_cases hv : c' = 0 ∧ v.length ≤ 4096
            · have q6 : (c' == 0) = true := by rw [hv.1]; rfl
              have q7 : decide (((mk v).size : Int) ≤ 4096) = true := by rw [hV]; have := hv.2; simpa using (by omega : (v.length : Int) ≤ 4096)
              have h3 := d3 hall hg1 hv
              rw [Nat.add_assoc] at h3
              obtain ⟨hL, hlt⟩ := hgood.out _ h3
              have HL := Lib.hid hL
              have hl2 : Hid ((r.drop (n + (m + x))).length ≤ 1000) := Lib.hid (by rw [List.length_drop]; omega)
              have hsz : (mk (r.drop (n + (m + x)))).size = (r.drop (n + (m + x))).length := mk_len _
              have hsy : (mk r).size = r.length := mk_len _
              have Hsz := Lib.hid (show (mk (r.drop (n + (m + x)))).size < (mk r).size by rw [hsz, hsy]; exact hlt)
              clear hbad hgood d1 d2' d3 d4 hall hV hK hL hlt hsz hsy hg1 h3 hv
              generalize hy3 : mk (r.drop (n + (m + x))) = y3 at *
              generalize mk (r.drop (n + m)) = y2 at *
              generalize mk (r.drop n) = y1 at *
              generalize mk k = kk at *
              generalize mk v = vv at *
              generalize hy : mk r = y at *
              go_wp2_with (first
                | (go_at_call 28; first | ((with_reducible refine (S1.out _).mono ?_); rintro e w' ⟨rfl, rfl⟩) | ((with_reducible refine (S3.out _).mono ?_); rintro e w' ⟨rfl, rfl⟩))
                | (go_at_call 29; refine (S2.out _).mono ?_; rintro e w' ⟨rfl, rfl⟩))
              refine ⟨⟨r.drop (n + (m + x)), true, rfl, by rw [hy3], hl2.out, HL.out, by first | rfl | trivial⟩, ?_⟩
              show szIn (.string y3) + boolIn (.bool true) < szIn (.string y) + boolIn (.bool true)
              show y3.size + 1 < y.size + 1
              have := Hsz.out
              omega
            · have hL := Lib.hid (hbad.out (d4 hall hg1 hv))
              have hcase : ((c' == 0) = false) ∨ ((c' == 0) = true ∧ decide (((mk v).size : Int) ≤ 4096) = false) := by
                rw [hV]
                by_cases q6 : c' = 0
                · exact Or.inr ⟨by rw [q6]; rfl, by simpa using (by have : ¬ v.length ≤ 4096 := (fun h => hv ⟨q6, h⟩); omega : (4096 : Int) < v.length)⟩
                · exact Or.inl (by rw [beq_eq_false_iff_ne]; exact q6)
              clear hbad hgood d1 d2' d3 d4 hall hV hK hg1 hv
              generalize mk (r.drop (n + (m + x))) = y3 at *
              generalize mk (r.drop (n + m)) = y2 at *
              generalize mk (r.drop n) = y1 at *
              generalize mk k = kk at *
              generalize mk v = vv at *
              generalize hy : mk r = y at *
              rcases hcase with q6 | ⟨q6, q7⟩
              all_goals
                go_wp2_with (first
                  | (go_at_call 28; first | ((with_reducible refine (S1.out _).mono ?_); rintro e w' ⟨rfl, rfl⟩) | ((with_reducible refine (S3.out _).mono ?_); rintro e w' ⟨rfl, rfl⟩))
                  | (go_at_call 29; refine (S2.out _).mono ?_; rintro e w' ⟨rfl, rfl⟩))
                refine ⟨⟨r, false, rfl, by rw [hy], hr1000, hL.out, by first | rfl | trivial⟩, ?_⟩
                show szIn (.string y) + boolIn (.bool false) < szIn (.string y) + boolIn (.bool true)
                show y.size + 0 < y.size + 1
                omega
        · have hL := Lib.hid (hbad.out (d1 hall))
          have hcase : ((a' == 0) = false) ∨ ((a' == 0) = true ∧ (b' == 0) = false) ∨ ((a' == 0) = true ∧ (b' == 0) = true ∧ decide ((g : Int) ≤ 1) = false) ∨ ((a' == 0) = true ∧ (b' == 0) = true ∧ decide ((g : Int) ≤ 1) = true ∧ decide ((1 : Int) ≤ ((mk k).size : Int)) = false) ∨
              ((a' == 0) = true ∧ (b' == 0) = true ∧ decide ((g : Int) ≤ 1) = true ∧ decide ((1 : Int) ≤ ((mk k).size : Int)) = true ∧ decide (((mk k).size : Int) ≤ 32) = false) := by
            rw [hK]
            by_cases q1 : a' = 0
            · by_cases q2 : b' = 0
              · by_cases q3 : g ≤ 1
                · by_cases q4 : 1 ≤ k.length
                  · have q5 : ¬ k.length ≤ 32 := fun q5 => hall ⟨q1, q2, q3, q4, q5⟩
                    exact Or.inr (Or.inr (Or.inr (Or.inr ⟨by rw [q1]; rfl, by rw [q2]; rfl, by simpa using (by omega : (g : Int) ≤ 1), by simpa using (by omega : (1 : Int) ≤ k.length), by simpa using (by omega : (32 : Int) < k.length)⟩)))
                  · exact Or.inr (Or.inr (Or.inr (Or.inl ⟨by rw [q1]; rfl, by rw [q2]; rfl, by simpa using (by omega : (g : Int) ≤ 1), by simpa using (by omega : (k.length : Int) < 1)⟩)))
                · exact Or.inr (Or.inr (Or.inl ⟨by rw [q1]; rfl, by rw [q2]; rfl, by simpa using (by omega : (1 : Int) < g)⟩))
              · exact Or.inr (Or.inl ⟨by rw [q1]; rfl, by rw [beq_eq_false_iff_ne]; exact q2⟩)
            · exact Or.inl (by rw [beq_eq_false_iff_ne]; exact q1)
          clear hbad hgood d1 d2' d3 d4 hall U2 U3 S3 hnm hnmx hV e1 hK
          generalize mk (r.drop n) = y1 at *
          generalize mk k = kk at *
          generalize hy : mk r = y at *
          rcases hcase with q1 | ⟨q1, q2⟩ | ⟨q1, q2, q3⟩ | ⟨q1, q2, q3, q4⟩ | ⟨q1, q2, q3, q4, q5⟩
          all_goals
            go_wp2_with (first
              | (go_at_call 28; refine (S1.out _).mono ?_; rintro e w' ⟨rfl, rfl⟩)
              | (go_at_call 29; refine (S2.out _).mono ?_; rintro e w' ⟨rfl, rfl⟩))
            refine ⟨⟨r, false, rfl, by rw [hy], hr1000, hL.out, by first | rfl | trivial⟩, ?_⟩
            show szIn (.string y) + boolIn (.bool false) < szIn (.string y) + boolIn (.bool true)
            show y.size + 0 < y.size + 1
            omega
      · have hcase : (b = true ∧ r = []) ∨ b = false := by
          cases b
          · exact Or.inr rfl
          · by_cases e : r = []
            · exact Or.inl ⟨rfl, e⟩
            · exact absurd ⟨rfl, e⟩ hgo
        have T := C4.out wr p _ H4.out
        unfold OpenIs at T
        clear hgo
        rcases hcase with ⟨rfl, rfl⟩ | rfl
        · have hok : (Sto.parse rec).isSome = true := by
            have := Hleft.out.2
            rw [this]; rfl
          rw [hok] at T
          have T2 : Hid (Calls Tryz.prog 10 #[.pointer (some p), .int .i64 100] wr fun e w' => (∃ pp, e = .returned (.tuple #[.pointer (some pp), .int .i64 0])) ∧ Below W.heap.size W w') := Lib.hid (T.mono (by
            rintro e w' ⟨⟨v, rfl, pp, rfl⟩, h⟩
            exact ⟨⟨pp, rfl⟩, h⟩))
          have g1 : ((mk []).toList != []) = false := by rw [Lib.toList_data]; rfl
          have g2 : (mk []).toList.isEmpty = true := by rw [Lib.toList_data]; rfl
          clear T hok
          generalize mk [] = y at *
          go_wp2_with (first
            | (go_at_call 10; refine (T2.out).mono ?_; rintro e w5 ⟨⟨pp, rfl⟩, b5⟩)
            | (go_at_call 30; refine (H.none_get _ _).mono ?_; rintro e w6 ⟨rfl, b6⟩)
            | (go_at_call 17; refine (H.none_doing _ _).mono ?_; rintro e w7 ⟨rfl, b7⟩)
            | (go_at_call 13; refine (H.none_check _ _).mono ?_; rintro e w8 ⟨rfl, b8⟩)
            | (go_at_call 31; refine (H.none_bytes _).mono ?_; rintro e w9 ⟨rfl, b9⟩)
            | (go_at_call 20; refine (H.none_quota _).mono ?_; rintro e w10 ⟨rfl, b10⟩)
            | (go_at_call 32; refine (H.none_len _).mono ?_; rintro e w11 ⟨rfl, b11⟩)
            | (go_at_call 24; refine (H.none_keys _ _).mono ?_; rintro e w12 ⟨A12, c12, rfl, b12⟩)
            | (go_at_call 18; refine (H.none_broken _).mono ?_; rintro e w13 ⟨rfl, b13⟩))
          go_ret
          exact ⟨rfl, below_eight b5 b6 b7 b8 b9 b10 b11 b12 b13⟩
        · have hok : (Sto.parse rec).isSome = false := Hleft.out
          rw [hok] at T
          have T2 : Hid (Calls Tryz.prog 10 #[.pointer (some p), .int .i64 100] wr fun e w' => e = .returned (.tuple #[.pointer none, .int .i64 6]) ∧ Below W.heap.size W w') := Lib.hid (T.mono (by
            rintro e w' ⟨⟨v, rfl, hv⟩, h⟩
            have hv : v = .pointer none := hv
            subst hv
            exact ⟨rfl, h⟩))
          have hg : ((mk r).toList.isEmpty = true ∧ ((mk r).toList != []) = false) ∨ ((mk r).toList.isEmpty = false ∧ ((mk r).toList != []) = true) := by
            rw [Lib.toList_data, mk_data]
            cases r with
            | nil => exact Or.inl ⟨rfl, rfl⟩
            | cons a l => exact Or.inr ⟨rfl, rfl⟩
          clear T hok
          generalize mk r = y at *
          rcases hg with ⟨g1, g2⟩ | ⟨g1, g2⟩
          all_goals
            go_wp2_with (first
              | (go_at_call 10; refine (T2.out).mono ?_; rintro e w5 ⟨rfl, b5⟩)
              | (go_at_call 30; refine (H.none_get _ _).mono ?_; rintro e w6 ⟨rfl, b6⟩)
              | (go_at_call 17; refine (H.none_doing _ _).mono ?_; rintro e w7 ⟨rfl, b7⟩)
              | (go_at_call 13; refine (H.none_check _ _).mono ?_; rintro e w8 ⟨rfl, b8⟩)
              | (go_at_call 31; refine (H.none_bytes _).mono ?_; rintro e w9 ⟨rfl, b9⟩)
              | (go_at_call 20; refine (H.none_quota _).mono ?_; rintro e w10 ⟨rfl, b10⟩)
              | (go_at_call 32; refine (H.none_len _).mono ?_; rintro e w11 ⟨rfl, b11⟩)
              | (go_at_call 24; refine (H.none_keys _ _).mono ?_; rintro e w12 ⟨A12, c12, rfl, b12⟩)
              | (go_at_call 18; refine (H.none_broken _).mono ?_; rintro e w13 ⟨rfl, b13⟩))
            go_ret
            exact ⟨rfl, below_eight b5 b6 b7 b8 b9 b10 b11 b12 b13⟩
end
end Go.Proofs.YtbfjageaheijbaaGreat
namespace Go.Proofs.YtbfjageaheijbaaGreat
open Go.RowKit

open Go.ChangeShapes Go.WideShapes Go.ChangeAt
open Go.ChangeMaps (open_string shut_string)

set_option maxRecDepth 100000 in
theorem storeForms_lifted (os : Os) (started : os.Started) (H : Type) (enc : TypeId × Value → H) :
    ReturnsInHanded {} Tryz.checked os 6 .any (Rows.storeFormsSpec.pre6 enc Tryz.prog Tryz.f6 Rows.storeFormsRow.domain false) (Rows.storeFormsSpec.post enc Tryz.prog Tryz.f6 false true false false) := by
  refine returnsInHanded_of_change_sized (C := Tryz.checked) own started (by kernel_rfl) Tryz.func6
    (ChangeSpec.witness6 (enc := enc) (C := Tryz.checked) false ⟨#[], #[.string ⟨#[]⟩], []⟩ 8 (by kernel_rfl) (by kernel_rfl) (by kernel_rfl) (by kernel_rfl)) ?_
  intro W base args ds gs before hval0 hW _ hsz _
  have hval : ∀ (j : Nat) t v, Tryz.f6.params[j]? = some t → args[j]? = some v → Value.okWide Tryz.prog W .any base t v := hval0
  have hW0 := hW
  obtain ⟨p, q, hA0, hV, _, _, _⟩ := hW
  have hA : DataW.TrodAll enc Tryz.prog W 0 (fun _ => true) true Tryz.f6.params.toList args.toList ds p := hA0
  rw [Tryz.params6] at hA hval hsz
  obtain ⟨v0, vs0, d0, ds0, p0, q0, hargs, rfl, rfl, h0, r0⟩ := trodAll_cons hA
  obtain ⟨rfl, rfl, rfl⟩ := trodAll_nil r0
  obtain rfl : args = #[v0] := by cases args; simp_all
  obtain ⟨s, rfl, rfl, rfl, s0⟩ := open_string Tryz.underlying9 (hval 0 9 v0 rfl rfl) h0
  have s63 : s.size ≤ 9223372036854775807 := by unfold maxLen at s0; omega
  obtain ⟨rfl, rfl⟩ := trodVars_none hV
  refine (forms_walk disk_use journal_ok store_ok s W s63).mono fun e W' ⟨he, hg⟩ => ?_
  subst he
  exact ⟨_, rfl, law_done (by kernel_rfl) rfl hW0 rfl (by rw [Tryz.params6]; decide +kernel) hg⟩

set_option maxRecDepth 100000 in
theorem storeForms_over : Rows.storeFormsRow.holds Tryz.pinned (OpenSpec.ofChange Rows.storeFormsSpec) :=
  OpenClaim.holds_of_wide 6 Tryz.f6 rfl rfl rfl rfl rfl rfl rfl ⟨rfl, rfl, rfl, rfl, rfl⟩ rfl rfl rfl rfl rfl (by kernel_rfl) Tryz.func6 (by kernel_rfl)
    (of_decide_eq_true (by kernel_rfl)) (by unfold Func.isWrapper; first | (rw [if_pos (by decide +kernel)]; kernel_rfl) | (rw [if_neg (by decide +kernel)]; exact ⟨rfl, rfl⟩))
    (fun os started H enc _ => storeForms_lifted os started H enc)

set_option maxRecDepth 100000 in
/-- The statement. -/
theorem storeForms_holds : Rows.StoreFormsSaid := storeForms_over
#print axioms storeForms_holds
end Go.Proofs.YtbfjageaheijbaaGreat
