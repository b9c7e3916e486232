/- The small functions of layer 6's laws: check, Whole, full. -/
import Derived.Test.YtbfjageaheijbaaGreatCom40
namespace Go.Proofs.YtbfjageaheijbaaGreat
open Go.RowKit

set_option maxRecDepth 100000 in
set_option maxHeartbeats 3200000 in
theorem check_law {w : World} {F G : Nat → Prop} {pv cv : Value} {l : List Sto.Pr} {cs : List Sto.Ch} (hp : Pairs w F pv l) (hc : Changes w G cv cs) (hl : l.length ≤ 100000) (hf : Sto.Fit l) (hcl : cs.length ≤ 9223372036854775807) (q : Int) :
    Calls Tryz.prog 12 #[pv, cv, .int .i64 q] w fun e w' => e = .returned (.int .i64 (Sto.check l cs q)) ∧ Below w.heap.size w w' := by
  obtain ⟨A, cap, rfl, hcap⟩ := hc.slice
  have H := Lib.hid hc
  have hl' : (cs.length : Int) ≤ 9223372036854775807 := by omega
  by_cases hbad : cs.length = 0 ∨ 1024 < cs.length
  · have hfin : Hid (Sto.check l cs q = 2) := Lib.hid (by unfold Sto.check; rw [if_pos hbad])
    have hcase : ((cs.length : Int) == 0) = true ∨ (((cs.length : Int) == 0) = false ∧ decide ((1024 : Int) < (cs.length : Int)) = true) := by
      by_cases h0 : cs.length = 0
      · exact Or.inl (by rw [h0]; rfl)
      · exact Or.inr ⟨by rw [beq_eq_false_iff_ne]; omega, decide_eq_true (by omega)⟩
    clear hc hp hf hbad
    generalize hn : cs.length = nn at *
    rcases hcase with h1 | ⟨h1, h2⟩
    all_goals
      go_enter Tryz.func12, Tryz.ntmps12
      go_wp2_with fail
      go_ret
      exact ⟨by rw [hfin.out]; rfl, Below.refl _ _⟩
  · have h1 : ((cs.length : Int) == 0) = false := by rw [beq_eq_false_iff_ne]; omega
    have h2 : decide ((1024 : Int) < (cs.length : Int)) = false := decide_eq_false (by omega)
    have h3 : cs.length ≤ 1024 := by omega
    have Hp := Lib.hid hp
    have Hf := Lib.hid hf
    have Hbad := Lib.hid hbad
    clear hc hp hf hbad
    go_enter Tryz.func12, Tryz.ntmps12
    go_wp2_with fail
    go_loopw [7] (fun i wr => ∃ n : Nat, n ≤ cs.length ∧ i = .int .i64 (n : Int) ∧ (∀ j x, j < n → cs[j]? = some x → Sto.May x) ∧ Below w.heap.size w wr) (fun i _ => cs.length - (intOf i).toNat)
    case atStart => exact ⟨0, Nat.zero_le _, rfl, (fun j x hj => absurd hj (by omega)), Below.refl _ _⟩
    case round =>
      obtain ⟨n, hn, rfl, hall, hbel⟩ := hrel
      have Hall := Lib.hid hall
      have Hbel := Lib.hid hbel
      clear hall
      by_cases hlt : n < cs.length
      · obtain ⟨b, o, cap', e, -, -, hb⟩ := H.out.shape (by omega)
        injection e with e1 e2 e3
        subst e1 e3
        obtain ⟨x, hx⟩ : ∃ x, cs[n]? = some x := ⟨_, List.getElem?_eq_getElem hlt⟩
        obtain ⟨c0, c1, c2⟩ := Changes.at (H.out.below hbel) hx
        have hn0 : (0 : Int) ≤ (n : Int) := by omega
        have hn1 : (n : Int) < (cs.length : Int) := by omega
        have hmay := Lib.hid (fun W => may_any x W)
        by_cases hok : Sto.May x
        · have hd : decide (Sto.May x) = true := decide_eq_true hok
          have hall2 : Hid (∀ j y, j < n + 1 → cs[j]? = some y → Sto.May y) := Lib.hid (fun j y hj hy => by
            by_cases e : j = n
            · rw [e, hx] at hy
              injection hy with hy
              rw [← hy]; exact hok
            · exact Hall.out j y (by omega) hy)
          rw [hd] at hmay
          clear hx hok hbel hd
          generalize mk x.key = x1 at *
          generalize mk x.val = x2 at *
          generalize x.gone = x3 at *
          go_wp2_with (go_at_call 36; refine (hmay.out _).mono ?_; rintro e w1 ⟨rfl, hb1⟩)
          refine ⟨⟨n + 1, by omega, rfl, hall2.out, Hbel.out.trans (hb1.mono Hbel.out.size)⟩, ?_⟩
          show cs.length - ((n : Int) + 1).toNat < cs.length - (n : Int).toNat
          omega
        · have hd : decide (Sto.May x) = false := decide_eq_false hok
          have hfin : Hid (Sto.check l cs q = 2) := Lib.hid (by
            unfold Sto.check
            rw [if_neg Hbad.out, if_pos (fun h => hok (h x (List.mem_of_getElem? hx)))])
          rw [hd] at hmay
          clear hx hok hbel hd
          generalize mk x.key = x1 at *
          generalize mk x.val = x2 at *
          generalize x.gone = x3 at *
          go_wp2_with (go_at_call 36; refine (hmay.out _).mono ?_; rintro e w1 ⟨rfl, hb1⟩)
          go_ret
          exact ⟨by rw [hfin.out]; rfl, Hbel.out.trans (hb1.mono Hbel.out.size)⟩
      · obtain rfl : n = cs.length := by omega
        have hmay : ∀ c ∈ cs, Sto.May c := fun c hc => by
          obtain ⟨j, hj, rfl⟩ := List.getElem_of_mem hc
          exact Hall.out j _ hj (List.getElem?_eq_getElem hj)
        have hnf := Sto.after_fit Hf.out hmay
        have hnl : (Sto.after l cs).length ≤ 200000 := by have := Sto.after_len l cs; omega
        have hafter := Lib.hid (after_any (Hp.out.below hbel) (H.out.below hbel) (by omega))
        have hb1 := Sto.bytes_le hnf
        have hb2 := Sto.bytes_le Hf.out
        have B1 : Hid (∀ a v, Vals wr F (Sto.after l cs) v a → Calls Tryz.prog 37 #[v] a fun e w' => e = .returned (.int .i64 (Sto.bytes (Sto.after l cs) : Int)) ∧ Below a.heap.size a w') := Lib.hid (fun a v h => ref_bytes h.1 (by omega) hnf)
        have B2 : Hid (∀ a, Below w.heap.size w a → Calls Tryz.prog 37 #[pv] a fun e w' => e = .returned (.int .i64 (Sto.bytes l : Int)) ∧ Below a.heap.size a w') := Lib.hid (fun a h => ref_bytes (Hp.out.below h) (by omega) Hf.out)
        have hcheck : Hid (Sto.check l cs q = if Sto.bytes l < Sto.bytes (Sto.after l cs) ∧ q < (Sto.bytes (Sto.after l cs) : Int) then 11 else 0) := Lib.hid (by
          unfold Sto.check
          rw [if_neg Hbad.out, if_neg (fun h => h hmay)])
        have n1 : (Sto.bytes (Sto.after l cs) : Int) ≤ 4200000000 := by omega
        have n2 : (Sto.bytes l : Int) ≤ 4200000000 := by omega
        clear hmay hnf hnl hb1 hb2 hbel
        have hcase : (decide (Sto.bytes l < Sto.bytes (Sto.after l cs)) = true ∧ decide (q < (Sto.bytes (Sto.after l cs) : Int)) = true ∧ Hid (Sto.check l cs q = 11)) ∨ (decide (Sto.bytes l < Sto.bytes (Sto.after l cs)) = true ∧ decide (q < (Sto.bytes (Sto.after l cs) : Int)) = false ∧ Hid (Sto.check l cs q = 0)) ∨
            (decide (Sto.bytes l < Sto.bytes (Sto.after l cs)) = false ∧ Hid (Sto.check l cs q = 0)) := by
          by_cases h1 : Sto.bytes l < Sto.bytes (Sto.after l cs)
          · by_cases h2 : q < (Sto.bytes (Sto.after l cs) : Int)
            · exact Or.inl ⟨decide_eq_true (by omega), decide_eq_true h2, Lib.hid (by rw [hcheck.out, if_pos ⟨h1, h2⟩])⟩
            · exact Or.inr (Or.inl ⟨decide_eq_true (by omega), decide_eq_false h2, Lib.hid (by rw [hcheck.out, if_neg (fun h => h2 h.2)])⟩)
          · exact Or.inr (Or.inr ⟨decide_eq_false (by omega), Lib.hid (by rw [hcheck.out, if_neg (fun h => h1 h.1)])⟩)
        clear hcheck
        generalize Sto.bytes (Sto.after l cs) = nb at *
        generalize Sto.bytes l = lb at *
        rcases hcase with ⟨g1, g2, hfin⟩ | ⟨g1, g2, hfin⟩ | ⟨g1, hfin⟩
        all_goals
          try have g3 := of_decide_eq_true g2
          try have g3 := of_decide_eq_false g2
          go_wp2_with (first
            | (go_at_call 14; refine (hafter.out).mono ?_; rintro e w1 ⟨v1, rfl, h1⟩; have hb1 := Hbel.out.trans (h1.2.mono Hbel.out.size))
            | (go_at_call 37; first | ((with_reducible refine (B2.out _ hb2).mono ?_); rintro e w3 ⟨rfl, k3⟩; have hb3 := hb2.trans (k3.mono hb2.size)) | ((with_reducible refine (B1.out _ _ h1).mono ?_); rintro e w2 ⟨rfl, k2⟩; have hb2 := hb1.trans (k2.mono hb1.size))))
          go_ret
          exact ⟨by rw [hfin.out]; rfl, hb3⟩

set_option maxRecDepth 100000 in
theorem whole_take (l : List Sto.Pr) (i : Nat) (x : Sto.Pr) (hx : l[i]? = some x) : Sto.whole (l.take (i + 1)) = Sto.whole (l.take i) + (Frm.one (Sto.single x)).length := by
  obtain ⟨hl, he⟩ := List.getElem?_eq_some_iff.1 hx
  rw [List.take_succ_eq_append_getElem hl, he]
  unfold Sto.whole Sto.singles
  rw [List.map_append, List.map_cons, List.map_nil, Frm.all_snoc, List.length_append]

set_option maxRecDepth 100000 in
theorem whole_le {l : List Sto.Pr} (h : Sto.Fit l) : Sto.whole l ≤ 4300 * l.length := by
  induction l with
  | nil => exact Nat.le_refl _
  | cons p l ih =>
    have h1 := ih (fun q hq => h q (List.mem_cons_of_mem _ hq))
    have h2 := Sto.single_len (h p (by simp))
    have h3 := (Leb.enc_len (Sto.single p).length).2
    unfold Sto.whole Sto.singles at h1 ⊢
    rw [List.map_cons, Frm.all_cons, List.length_append, Frm.one_len, List.length_cons]
    omega

set_option maxRecDepth 100000 in
theorem single_text (x : Sto.Pr) : mk (Leb.enc x.1.length ++ x.1) ++ (⟨#[0]⟩ : ByteArray) ++ mk (Leb.enc x.2.length ++ x.2) = mk (Sto.single x) := by
  have e : (⟨#[0]⟩ : ByteArray) = mk [0] := rfl
  rw [e, mk_append, mk_append]
  congr 1
  unfold Sto.single Sto.enc1
  simp [show Leb.enc 0 = [0] from rfl]

set_option maxRecDepth 100000 in
set_option maxHeartbeats 3200000 in
theorem whole_any {w : World} {F : Nat → Prop} {v : Value} {l : List Sto.Pr} (h : Pairs w F v l) (hl : l.length ≤ 200000) (hf : Sto.Fit l) :
    Calls Tryz.prog 22 #[v] w fun e w' => e = .returned (.int .i64 (Sto.whole l : Int)) ∧ Below w.heap.size w w' := by
  obtain ⟨A, cap, rfl, hcap⟩ := h.slice
  have H := Lib.hid h
  have Hf := Lib.hid hf
  have hl' : (l.length : Int) ≤ 200000 := by omega
  clear h hf
  go_enter Tryz.func22, Tryz.ntmps22
  go_wp2_with fail
  go_loopw [3, 4] (fun o i wr => ∃ n : Nat, n ≤ l.length ∧ i = .int .i64 (n : Int) ∧ o = .int .i64 (Sto.whole (l.take n) : Int) ∧ Below w.heap.size w wr) (fun _ i _ => l.length - (intOf i).toNat)
  case atStart => exact ⟨0, Nat.zero_le _, rfl, rfl, Below.refl _ _⟩
  case round =>
    obtain ⟨n, hn, rfl, rfl, hbel⟩ := hrel
    by_cases hlt : n < l.length
    · obtain ⟨b, o, cap', e, -, -, hb⟩ := H.out.shape (by omega)
      injection e with e1 e2 e3
      subst e1 e3
      obtain ⟨x, hx⟩ : ∃ x, l[n]? = some x := ⟨_, List.getElem?_eq_getElem hlt⟩
      have hcell : ∀ a, Below w.heap.size w a → a.cell? ⟨b, o + n * 2, none⟩ = some (.string (mk x.1)) ∧ a.cell? ⟨b, o + n * 2 + 1, none⟩ = some (.string (mk x.2)) := fun a ha => Pairs.at (H.out.below ha) hx
      obtain ⟨c0, c1⟩ := hcell wr.drew hbel.drew
      have Hcell := Lib.hid hcell
      have hfx := Hf.out x (List.mem_of_getElem? hx)
      have hst := whole_take l n x hx
      have hn0 : (0 : Int) ≤ (n : Int) := by omega
      have hn1 : (n : Int) < (l.length : Int) := by omega
      have hle := whole_le (fit_take Hf.out n)
      have hlt2 : (l.take n).length ≤ 200000 := by rw [List.length_take]; omega
      have hsl := Sto.single_len hfx
      have ho := Frm.one_len (Sto.single x)
      have hen := (Leb.enc_len (Sto.single x).length).2
      have T1 : Hid (∀ a, Calls Tryz.prog 47 #[.string (mk x.1)] a fun e w' => e = .returned (.string (mk (Leb.enc x.1.length ++ x.1))) ∧ Below a.heap.size a w') := Lib.hid (fun a => by
        have := ref_text (mk x.1) a (by rw [mk_len]; have := hfx.2.1; omega)
        rw [mk_len, mk_data] at this
        exact this)
      have T2 : Hid (∀ a, Calls Tryz.prog 47 #[.string (mk x.2)] a fun e w' => e = .returned (.string (mk (Leb.enc x.2.length ++ x.2))) ∧ Below a.heap.size a w') := Lib.hid (fun a => by
        have := ref_text (mk x.2) a (by rw [mk_len]; have := hfx.2.2; omega)
        rw [mk_len, mk_data] at this
        exact this)
      have O1 : Hid (∀ a, Calls Tryz.prog 46 #[.string (mk (Sto.single x))] a fun e w' => e = .returned (.string (mk (Frm.one (Sto.single x)))) ∧ Below a.heap.size a w') := Lib.hid (fun a => ref_one (Sto.single x) a (by omega))
      have hcat := single_text x
      have s1 : (Sto.whole (l.take n) : Int) ≤ 4200000000 := by omega
      have s2 : ((mk (Frm.one (Sto.single x))).size : Int) ≤ 4200000000 := by rw [mk_len]; omega
      have z1 : (mk (Leb.enc x.1.length ++ x.1)).size ≤ 5000 := by rw [mk_len, List.length_append]; have := (Leb.enc_len x.1.length).2; have := hfx.2.1; omega
      have z2 : (mk (Leb.enc x.2.length ++ x.2)).size ≤ 5000 := by rw [mk_len, List.length_append]; have := (Leb.enc_len x.2.length).2; have := hfx.2.2; omega
      have zc1 : ¬ 9223372036854775807 < (mk (Leb.enc x.1.length ++ x.1)).size + 1 := by omega
      have zc2 : ¬ 9223372036854775807 < (mk (Leb.enc x.1.length ++ x.1)).size + 1 + (mk (Leb.enc x.2.length ++ x.2)).size := by omega
      have hst2 : Hid ((Sto.whole (l.take n) : Int) + ((mk (Frm.one (Sto.single x))).size : Int) = (Sto.whole (l.take (n + 1)) : Int)) := Lib.hid (by rw [mk_len]; omega)
      have Hbel := Lib.hid hbel
      clear hx hst hbel hle hlt2 hcell hfx hsl ho hen
      generalize mk (Frm.one (Sto.single x)) = y3 at *
      generalize mk (Sto.single x) = y2 at *
      generalize hA : mk (Leb.enc x.1.length ++ x.1) = t1 at *
      generalize hB : mk (Leb.enc x.2.length ++ x.2) = t2 at *
      generalize mk x.1 = x1 at *
      generalize mk x.2 = x2 at *
      generalize Sto.whole (l.take n) = bb at *
      go_wp2_with fail
      go_region_law (first
        | (go_simp; go_at_call 47; first
            | ((with_reducible refine (T1.out _).mono ?_); rintro e w1 ⟨rfl, b1⟩; have B1 := (Hbel.out.drew).trans (b1.mono Hbel.out.size); obtain ⟨p0, p1⟩ := Hcell.out w1 B1)
            | ((with_reducible refine (T2.out _).mono ?_); rintro e w2 ⟨rfl, b2⟩; have B2 := B1.trans (b2.mono B1.size)))
        | (go_simp; go_at_call 46; (with_reducible refine (O1.out _).mono ?_); rintro e w3 ⟨rfl, b3⟩; have B3 := B2.trans (b3.mono B2.size)))
      all_goals
        go_wp2_with fail
        refine ⟨⟨n + 1, by omega, rfl, by rw [← hst2.out], B3⟩, ?_⟩
        show l.length - ((n : Int) + 1).toNat < l.length - (n : Int).toNat
        omega
    · obtain rfl : n = l.length := by omega
      rw [List.take_length]
      have Hbel := Lib.hid hbel
      clear hbel
      obtain ⟨bb, hbb⟩ : ∃ bb, Sto.whole l = bb := ⟨_, rfl⟩
      rw [hbb]
      have Hbb := Lib.hid hbb
      clear hbb
      go_wp2_with fail
      go_ret
      exact ⟨by rw [Hbb.out]; rfl, Hbel.out⟩

set_option maxRecDepth 100000 in
theorem full_any {w : World} {F : Nat → Prop} {v : Value} {l : List Sto.Pr} (h : Pairs w F v l) (hl : l.length ≤ 200000) (hf : Sto.Fit l) (half : Nat) (hh : half ≤ 100000) :
    Calls Tryz.prog 15 #[v, .int .i64 (half : Int)] w fun e w' => e = .returned (.int .i64 (if half < Sto.whole l then 10 else 0)) ∧ Below w.heap.size w w' := by
  have hw := Lib.hid (whole_any h hl hf)
  by_cases hc : half < Sto.whole l
  · have hd : decide (half < Sto.whole l) = true := decide_eq_true hc
    rw [if_pos hc]
    clear hc h hf
    generalize Sto.whole l = n at *
    go_enter Tryz.func15, Tryz.ntmps15
    go_wp2_with (go_at_call 22; refine (hw.out).mono ?_; rintro e w1 ⟨rfl, hb1⟩)
    go_ret
    exact ⟨rfl, hb1⟩
  · have hd : decide (half < Sto.whole l) = false := decide_eq_false hc
    rw [if_neg hc]
    clear hc h hf
    generalize Sto.whole l = n at *
    go_enter Tryz.func15, Tryz.ntmps15
    go_wp2_with (go_at_call 22; refine (hw.out).mono ?_; rintro e w1 ⟨rfl, hb1⟩)
    go_ret
    exact ⟨rfl, hb1⟩
end Go.Proofs.YtbfjageaheijbaaGreat
/- What came in to layer 6's laws, opened: lists of lists of changes, acts; a value that is put again. -/
set_option linter.unusedSimpArgs false
set_option linter.unusedVariables false
namespace Go.Proofs.YtbfjageaheijbaaGreat
open Go.ChangeShapes Go.WideShapes Go.ChangeAt Go.RowKit Go.Deep

namespace Sto
set_option maxRecDepth 100000 in
theorem put_same : ∀ {l : List Pr} {k : Key} {v : List UInt8}, Sorted l → (k, v) ∈ l → put l k v = l
  | [], _, _, _, h => by cases h
  | q :: l, k, v, hs, h => by
    have h2 := List.pairwise_cons.1 hs
    rcases List.mem_cons.1 h with e | e
    · have hd : drop (q :: l) k = l := by
        unfold drop
        rw [List.filter_cons, if_neg (by rw [← e]; simp)]
        exact List.filter_eq_self.2 (fun p hp => decide_eq_true (fun e2 => by
          have := h2.1 p hp
          rw [← e, e2] at this
          exact klt_irrefl k this))
      obtain ⟨r1, r2⟩ : low l k = l.take 0 ∧ high l k = l.drop 0 := by
        cases l with
        | nil => exact ⟨rfl, rfl⟩
        | cons p l =>
          have hp : ¬ p.1 < k := fun hlt => by
            have := h2.1 p (by simp)
            rw [← e] at this
            exact klt_asymm this hlt
          constructor
          · unfold low
            rw [List.takeWhile_cons, if_neg (by simpa using hp)]
            rfl
          · unfold high
            rw [List.dropWhile_cons, if_neg (by simpa using hp)]
            rfl
      unfold put
      rw [hd, r1, r2, List.take_zero, List.drop_zero, e]
      rfl
    · have hq : q.1 < k := h2.1 (k, v) e
      have hne : q.1 ≠ k := fun e2 => klt_irrefl k (by rw [e2] at hq; exact hq)
      have hd : drop (q :: l) k = q :: drop l k := by
        unfold drop
        rw [List.filter_cons, if_pos (decide_eq_true hne)]
      have ih := put_same h2.2 e
      unfold put at ih ⊢
      rw [hd]
      have r1 : low (q :: drop l k) k = q :: low (drop l k) k := by
        unfold low
        rw [List.takeWhile_cons, if_pos (by simpa using hq)]
      have r2 : high (q :: drop l k) k = high (drop l k) k := by
        unfold high
        rw [List.dropWhile_cons, if_pos (by simpa using hq)]
      rw [r1, r2, List.cons_append, ih]

set_option maxRecDepth 100000 in
theorem again_check {l : List Pr} (hs : Sorted l) (hf : Fit l) {p : Pr} (hp : p ∈ l) (q : Int) : check l [⟨p.1, p.2, false⟩] q = 0 ∧ after l [⟨p.1, p.2, false⟩] = l := by
  have ha : after l [⟨p.1, p.2, false⟩] = l := by
    have e : after l [⟨p.1, p.2, false⟩] = put l p.1 p.2 := by simp [after, step]
    rw [e]
    exact put_same hs hp
  refine ⟨?_, ha⟩
  unfold check
  rw [if_neg (by simp), if_neg (by simpa using may_of_fits (hf p hp)), ha, if_neg (fun h => by omega)]
end Sto

/-- Changes that lie somewhere. -/
structure Lc where
  A : Option Addr
  len : Nat
  cap : Nat
  cs : List Sto.Ch

def Lc.v (x : Lc) : Value := .slice x.A x.len x.cap

structure Lc.Ok (W : World) (x : Lc) : Prop where
  cells : Changes W (fun i => i < W.heap.size) x.v x.cs
  len : x.cs.length ≤ 9223372036854775807

def LcsIn (W : World) (A : Option Addr) (len : Nat) (l : List Lc) : Prop :=
  l.length = len ∧ (∀ a ∈ l, a.Ok W) ∧ (0 < len → ∃ b off, A = some ⟨b, off, none⟩ ∧ b < W.heap.size ∧ ∀ i a, l[i]? = some a → W.cell? ⟨b, off + i, none⟩ = some a.v)

set_option maxRecDepth 100000 in
theorem Sto.chsCells : Tryz.prog.cellsOf 33 = 1 := by kernel_rfl

section
variable {H : Type} {enc : TypeId × Value → H}

set_option maxRecDepth 100000 in
theorem open_lc {W : World} {c : Value} {n : Nat} {d : DataW H × List MemPlace} (h : DataW.trod enc Tryz.prog W 0 (fun _ => true) true n 33 [c] = some d) : ∃ x : Lc, c = x.v ∧ x.Ok W := by
  obtain ⟨A, len, cap, cs, rfl, h1, h2, h3, h4⟩ := open_chs h
  exact ⟨⟨A, len, cap, cs⟩, rfl, h1, by show cs.length ≤ _; omega⟩

set_option maxRecDepth 100000 in
theorem open_lcs {W : World} {v : Value} {d : DataW H} {p : List MemPlace} (hv : ∃ a len cap, v = .slice a len cap) (h : DataW.Trod enc Tryz.prog W 0 (fun _ => true) true 47 v d p) :
    ∃ A len cap l, v = .slice A len cap ∧ len ≤ cap ∧ len ≤ 9223372036854775807 ∧ LcsIn W A len l := by
  obtain ⟨A, len, cap, rfl⟩ := hv
  obtain ⟨fuel, hf⟩ := h
  rcases open_slice Tryz.underlying47 hf with ⟨hcs, _⟩ | ⟨a, len', cap', m, n, D, Pl, hcs, _, hl, hm, hmm, _, hi⟩
  · simp [Value.cells] at hcs
    obtain ⟨rfl, rfl, rfl⟩ := hcs
    exact ⟨none, 0, 0, [], rfl, Nat.le_refl _, by omega, rfl, (fun a ha => by cases ha), fun h => absurd h (by omega)⟩
  · simp [Value.cells] at hcs
    obtain ⟨rfl, rfl, rfl⟩ := hcs
    simp at hmm
    unfold maxLen at hm
    have hcell : ∀ i, i < len → ∃ f : Lc, W.cell? (a.add i) = some f.v ∧ f.Ok W := by
      intro i hil
      obtain ⟨cs', hc, ht⟩ := hi i (by omega)
      rw [Sto.chsCells] at hc
      obtain ⟨_, hcl, hat⟩ := World.cells?_some hc
      match cs', hcl with
      | [c0], _ =>
        obtain ⟨x, e0, hok⟩ := open_lc (c := c0) ht
        have h0 := hat 0 (by omega)
        rw [Nat.mul_one, Go.Deep.add_add] at h0
        exact ⟨x, by rw [← e0]; exact h0, hok⟩
    obtain ⟨fs, hfl, hfp⟩ := Sto.list_of len hcell
    refine ⟨some a, len, cap, fs, rfl, hl, by omega, hfl, fun f hf => ?_, fun hpos => ?_⟩
    · obtain ⟨i, hil, rfl⟩ := List.getElem_of_mem hf
      exact (hfp i _ (List.getElem?_eq_getElem hil)).2
    · obtain ⟨f0, h0, _⟩ := hcell 0 hpos
      have hb := Sto.in_heap h0
      obtain ⟨b, off, spot⟩ := a
      have hs : spot = none := by simpa [Addr.add] using hb.2
      subst hs
      refine ⟨b, off, rfl, by simpa [Addr.add] using hb.1, fun i f hf => ?_⟩
      have := (hfp i f hf).1
      rw [Go.WideShapes.add_plain] at this
      exact this
end
end Go.Proofs.YtbfjageaheijbaaGreat
