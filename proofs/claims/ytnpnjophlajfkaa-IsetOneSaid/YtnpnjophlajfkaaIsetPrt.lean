/- The landed iset: Of, Has, finder, part, Meet, Minus. -/
import Derived.Test.YtnpnjophlajfkaaIsetFnd
import Derived.Test.YtnpnjophlajfkaaOwn2
set_option linter.unusedSimpArgs false
set_option linter.unusedVariables false
namespace Go.Proofs.Ytnpnjophlajfkaa
open Go.RowKit Go.Sort

set_option maxRecDepth 100000 in
theorem iset_of (Z : VersOk) {w : World} {F : Nat → Prop} {v : Value} {l : List Ver.V} (h : Vrs w F v l) (hl : l.length ≤ 1000000) :
    Calls Try.prog 12 #[v] w fun e w' => ∃ v', e = .returned v' ∧ Vrs w' (NewIn w w') v' (Ver.sort l) ∧ Below w.heap.size w w' := by
  have SO := Lib.hid (Z.sort h hl)
  clear h
  go_enter Try.func12, Try.ntmps12
  go_wp2_with fail
  refine (SO.out).mono ?_
  rintro e w1 ⟨v1, rfl, h1, h2⟩
  have H1 := Lib.hid h1
  have H2 := Lib.hid h2
  clear h1 h2
  go_wp2_with fail
  go_ret
  exact ⟨_, rfl, H1.out, H2.out⟩

set_option maxRecDepth 100000 in
set_option maxHeartbeats 1600000 in
theorem ver_index {w : World} {F : Nat → Prop} {v : Value} {l : List Ver.V} (x : Ver.V) (h : Vrs w F v l) (hl : l.length ≤ 1000000) :
    Calls Try.prog 35 #[v, verA x] w fun e w' => (∃ k : Int, e = .returned (.int .i64 k) ∧ decide (0 ≤ k) = decide (x ∈ l)) ∧ Laid w w' := by
  obtain ⟨A, cap, rfl, hcap⟩ := h.parts
  have H := Lib.hid h
  have hl' : (l.length : Int) ≤ 1000000 := by omega
  obtain ⟨x1, x2⟩ := x
  have LB := Lib.hid (Laid.new w (.cells #[.int .i64 x1, .int .i64 x2] 24))
  have XB := Lib.hid (iset_boxed w x1 x2)
  clear h
  go_enter Try.func35, Try.ntmps35
  go_wp2_with fail
  go_loopw [8] (fun i wr => ∃ n : Nat, n ≤ l.length ∧ i = .int .i64 (n : Int) ∧ Hid ((⟨x1, x2⟩ : Ver.V) ∉ l.take n) ∧ Laid (w.alloc (.cells #[.int .i64 x1, .int .i64 x2] 24)) wr) (fun i _ => l.length - (intOf i).toNat)
  case atStart => exact ⟨0, Nat.zero_le _, rfl, Lib.hid (by simp), Laid.refl _⟩
  case round =>
    obtain ⟨n, hn, rfl, hnot, hlaid⟩ := hrel
    have HL := Lib.hid (LB.out.trans hlaid)
    have HLD := Lib.hid hlaid
    by_cases hlt : n < l.length
    · obtain ⟨b, o, cap1, e, -, -, hb⟩ := H.out.block (by omega)
      injection e with e1 e2 e3
      subst e1 e3
      clear e2
      obtain ⟨y, hy⟩ : ∃ y, l[n]? = some y := ⟨_, List.getElem?_eq_getElem hlt⟩
      obtain ⟨c0, c1⟩ := Vrs.at (H.out.below HL.out.below) hy
      obtain ⟨q0, q1⟩ := XB.out _ hlaid
      have hn0 : (0 : Int) ≤ (n : Int) := by omega
      have hn1 : (n : Int) < (l.length : Int) := by omega
      clear hlaid
      by_cases hxy : y = ⟨x1, x2⟩
      · have hin : Hid ((⟨x1, x2⟩ : Ver.V) ∈ l) := Lib.hid (by rw [← hxy]; exact List.mem_of_getElem? hy)
        subst hxy
        simp only at c0 c1
        clear hy hnot
        go_wp2_with fail
        go_quiet (fail)
        go_wp2_with fail
        go_ret
        exact ⟨⟨(n : Int), rfl, by rw [decide_eq_true hin.out]; exact decide_eq_true (Int.natCast_nonneg n)⟩, HL.out.trans ⟨nq, #[], by rw [grow_empty]⟩⟩
      · have hnext := Lib.hid (Iset.not_take hy hnot.out hxy)
        obtain ⟨y1, y2⟩ := y
        simp only at c0 c1
        have hxy' : x1 = y1 → ¬ x2 = y2 := fun h k => hxy (by rw [h, k])
        clear hy hnot hxy
        by_cases h1 : x1 = y1
        · have h2 := hxy' h1
          subst h1
          clear hxy'
          go_wp2_with fail
          go_quiet (fail)
          go_wp2_with fail
          exact ⟨⟨n + 1, by omega, by go_num, hnext, HLD.out.trans ⟨nq, #[], by rw [grow_empty]⟩⟩, by show l.length - ((n : Int) + 1).toNat < l.length - (n : Int).toNat; omega⟩
        · clear hxy'
          go_wp2_with fail
          go_quiet (fail)
          go_wp2_with fail
          exact ⟨⟨n + 1, by omega, by go_num, hnext, HLD.out.trans ⟨nq, #[], by rw [grow_empty]⟩⟩, by show l.length - ((n : Int) + 1).toNat < l.length - (n : Int).toNat; omega⟩
    · obtain rfl : n = l.length := by omega
      have hout : Hid (¬ (⟨x1, x2⟩ : Ver.V) ∈ l) := Lib.hid (by have := hnot.out; rwa [List.take_length] at this)
      clear hlaid hnot
      go_wp2_with fail
      go_ret
      exact ⟨⟨-1, rfl, by rw [decide_eq_false hout.out]; rfl⟩, HL.out⟩

set_option maxRecDepth 100000 in
theorem ver_contains {w : World} {F : Nat → Prop} {v : Value} {l : List Ver.V} (x : Ver.V) (h : Vrs w F v l) (hl : l.length ≤ 1000000) :
    Calls Try.prog 24 #[v, verA x] w fun e w' => e = .returned (.bool (decide (x ∈ l))) ∧ Laid w w' := by
  have LB := Lib.hid (Laid.new w (.cells #[.int .i64 x.by_, .int .i64 x.n] 24))
  have IX := Lib.hid (ver_index x (h.below LB.out.below) hl)
  obtain ⟨x1, x2⟩ := x
  simp only at LB IX
  clear h
  generalize decide ((⟨x1, x2⟩ : Ver.V) ∈ l) = r at *
  go_enter Try.func24, Try.ntmps24
  go_wp2_with fail
  refine (IX.out).mono ?_
  rintro e w1 ⟨⟨k, rfl, hk⟩, h1⟩
  have H1 := Lib.hid (LB.out.trans h1)
  have HK := Lib.hid hk
  clear h1 hk
  go_wp2_with fail
  go_ret
  exact ⟨by rw [← HK.out]; first | rfl | simp, H1.out⟩

set_option maxRecDepth 100000 in
theorem iset_has {w : World} {F : Nat → Prop} {v : Value} {l : List Ver.V} (x : Ver.V) (h : Vrs w F v l) (hl : l.length ≤ 1000000) :
    Calls Try.prog 13 #[v, verA x] w fun e w' => e = .returned (.bool (decide (x ∈ l))) ∧ Below w.heap.size w w' := by
  have LB := Lib.hid (Laid.new w (.cells #[.int .i64 x.by_, .int .i64 x.n] 24))
  have IX := Lib.hid (ver_contains x (h.below LB.out.below) hl)
  obtain ⟨x1, x2⟩ := x
  simp only at LB IX
  clear h
  generalize decide ((⟨x1, x2⟩ : Ver.V) ∈ l) = r at *
  go_enter Try.func13, Try.ntmps13
  go_wp2_with fail
  refine (IX.out).mono ?_
  rintro e w1 ⟨rfl, h1⟩
  have H1 := Lib.hid (LB.out.trans h1)
  clear h1
  go_wp2_with fail
  go_ret
  exact ⟨rfl, H1.out.below⟩

set_option maxRecDepth 100000 in
theorem finder_made (Z : VersOk) {w : World} {F : Nat → Prop} {v : Value} {l : List Ver.V} (h : Vrs w F v l) (hl : l.length ≤ 1000000) :
    Calls Try.prog 28 #[v] w fun e w' => ∃ fv, e = .returned fv ∧ Finds w' (Ver.sort l) fv ∧ Below w.heap.size w w' := by
  have SO := Lib.hid (iset_of Z h hl)
  have HS : Hid ((Ver.sort l).length ≤ 1000000) := Lib.hid (Nat.le_trans (Ver.sort_len l) hl)
  clear h
  go_enter Try.func28, Try.ntmps28
  go_wp2_with fail
  refine (SO.out).mono ?_
  rintro e w1 ⟨v1, rfl, h1, h2⟩
  obtain ⟨A, cap, rfl, -⟩ := h1.parts
  have hb : Below w1.heap.size w1 (w1.alloc (.cells #[.slice A (Ver.sort l).length cap] 22)) := (Below.refl _ _).alloc (Nat.le_refl _) _
  have HF : Hid (Finds (w1.alloc (.cells #[.slice A (Ver.sort l).length cap] 22)) (Ver.sort l) (.func (.func 37) #[] #[.pointer (some ⟨w1.heap.size, 0, none⟩)])) := Lib.hid ⟨w1.heap.size, _, _, rfl, by simp, (Row.made w1 22 #[.slice A (Ver.sort l).length cap]).at 0, Rws.below h1 hb, Ver.sort_up l, HS.out⟩
  have HB := Lib.hid (h2.trans (hb.mono h2.size))
  clear h1 h2 hb
  go_wp2_with fail
  go_ret
  exact ⟨_, rfl, HF.out, HB.out⟩

/-- Two slices of the call's own, side by side. -/
def Apart (u v : Value) : Prop := ∀ g, u.ownBlock = some g → v.ownBlock ≠ some g
set_option maxRecDepth 100000 in
theorem Apart.none (v : Value) : Apart (.slice none 0 0) v := fun g hg => by cases hg
set_option maxRecDepth 100000 in
theorem Apart.symm {u v : Value} (h : Apart u v) : Apart v u := fun g hg k => h g k hg
set_option maxRecDepth 100000 in
theorem two_more {w0 W w3 : World} {a b : List Ver.V} {I O I' : Value} {o : Obj} {x : Ver.V} (hi : RowsOwn 24 2 verV w0 a I W) (ho : RowsOwn 24 2 verV w0 b O W) (ha : Apart I O)
    (own : w3.ownsRow w0.heap.size 24 2 I' (a.length + 1) (a.flatMap verV ++ verV x)) (hg : (W.alloc o).grownBy w3 I.ownBlock) (hn : Near (W.alloc o) I I') :
    RowsOwn 24 2 verV w0 (a ++ [x]) I' w3 ∧ RowsOwn 24 2 verV w0 b O w3 ∧ Apart I' O := by
  have h1 := hi.more own hg
  have hb : Below W.heap.size W (W.alloc o) := (Below.refl _ _).alloc (Nat.le_refl _) _
  have h2 := row_below ho.1 hb
  exact ⟨h1, ⟨own_left h2 hg (fun g hg hk => ha g hk hg), h1.2⟩, Apart.symm (hn.apart ha.symm h2 (Nat.le_refl _))⟩

set_option maxRecDepth 100000 in
set_option maxHeartbeats 6400000 in
theorem iset_part (Z : VersOk) {w : World} {F G : Nat → Prop} {u v : Value} {a b : List Ver.V} (h : Vrs w F u a) (k : Vrs w G v b) (hl : a.length ≤ 1000000) (hk : b.length ≤ 1000000) :
    Calls Try.prog 27 #[u, v] w fun e w' => ∃ I O, e = .returned (.tuple #[I, O]) ∧ RowsOwn 24 2 verV w (Iset.meet a b) I w' ∧ RowsOwn 24 2 verV w (Iset.minus a b) O w' := by
  obtain ⟨i0, hi0, hz0, hz1, hz2⟩ := ver_parts verInfo
  have FI := Lib.hid (finder_made Z k hk)
  have OF := Lib.hid (fun (W : World) (hW : Below w.heap.size w W) => iset_of Z (h.below hW) hl)
  have HS : Hid ((Ver.sort a).length ≤ 1000000) := Lib.hid (Nat.le_trans (Ver.sort_len a) hl)
  have HIN := Lib.hid (Iset.meet_is a (Ver.sort b))
  have HOUT := Lib.hid (Iset.minus_not a (Ver.sort b))
  have HM : Hid (Iset.meet a (Ver.sort b) = Iset.meet a b ∧ Iset.minus a (Ver.sort b) = Iset.minus a b) := Lib.hid ⟨Ver.up_same (Iset.meet_up _ _) (Iset.meet_up _ _) (fun x => by rw [Iset.meet_mem, Iset.meet_mem, Ver.sort_mem]), Ver.up_same (Iset.minus_up _ _) (Iset.minus_up _ _) (fun x => by rw [Iset.minus_mem, Iset.minus_mem, Ver.sort_mem])⟩
  clear h k hl hk
  generalize Ver.sort b = B at *
  go_enter Try.func27, Try.ntmps27
  go_wp2_with fail
  refine (FI.out).mono ?_
  rintro e w1 ⟨fv, rfl, hf, hb1⟩
  have HB1 := Lib.hid hb1
  have HF := Lib.hid hf
  obtain ⟨cb, sv, Fs, rfl, -, -, -, -, -⟩ := hf
  clear hb1
  go_wp2_with fail
  refine (OF.out _ HB1.out).mono ?_
  rintro e w2 ⟨v2, rfl, hv2, hb2⟩
  have HB2 := Lib.hid (HB1.out.trans (hb2.mono HB1.out.size))
  have HF2 := Lib.hid (HF.out.below hb2)
  have HV := Lib.hid hv2
  obtain ⟨A, cap, rfl, hcap⟩ := hv2.parts
  clear hv2 hb2 HF FI OF HB1
  generalize Ver.sort a = S at *
  have hSl : (S.length : Int) ≤ 1000000 := by have := HS.out; omega
  go_wp2_with fail
  go_loopw [4, 5, 14] (fun I O i wr => ∃ n : Nat, n ≤ S.length ∧ i = .int .i64 (n : Int) ∧ Hid (RowsOwn 24 2 verV w2 ((S.take n).filter fun x => decide (x ∈ B)) I wr ∧ RowsOwn 24 2 verV w2 ((S.take n).filter fun x => !decide (x ∈ B)) O wr ∧ Apart I O)) (fun _ _ i _ => S.length - (intOf i).toNat)
  case atStart => exact ⟨0, Nat.zero_le _, rfl, Lib.hid ⟨RowsOwn.start _ _ _ _, RowsOwn.start _ _ _ _, Apart.none _⟩⟩
  case round =>
    obtain ⟨n, hn, rfl, hst⟩ := hrel
    have HBW := Lib.hid hst.out.1.2
    by_cases hlt : n < S.length
    · obtain ⟨b1, o1, cap1, e, -, -, hb1⟩ := HV.out.block (by omega)
      injection e with e1 e2 e3
      subst e1 e3
      clear e2
      obtain ⟨y, hy⟩ : ∃ y, S[n]? = some y := ⟨_, List.getElem?_eq_getElem hlt⟩
      obtain ⟨c0, c1⟩ := Vrs.at (Rws.below HV.out HBW.out) hy
      have hn0 : (0 : Int) ≤ (n : Int) := by omega
      have hn1 : (n : Int) < (S.length : Int) := by omega
      have LA := Lib.hid (Laid.new wr (.cells #[.int .i64 y.by_, .int .i64 y.n] 24))
      have XB := Lib.hid (iset_boxed wr y.by_ y.n)
      have FC := Lib.hid (Finds.calls Z (HF2.out.below (HBW.out.trans (LA.out.below.mono HBW.out.size))) y)
      have HT := Lib.hid (Iset.filter_take (fun x => decide (x ∈ B)) S n y hy)
      have HU := Lib.hid (Iset.filter_take (fun x => !decide (x ∈ B)) S n y hy)
      have HLn : Hid (((S.take n).filter fun x => decide (x ∈ B)).length + 1 ≤ 1000000 ∧ ((S.take n).filter fun x => !decide (x ∈ B)).length + 1 ≤ 1000000) := Lib.hid (by
        have h1 := List.length_filter_le (fun x => decide (x ∈ B)) (S.take n)
        have h2 := List.length_filter_le (fun x => !decide (x ∈ B)) (S.take n)
        rw [List.length_take] at h1 h2
        have := HS.out
        omega)
      obtain ⟨y1, y2⟩ := y
      simp only at c0 c1 LA XB FC
      have Hmd := Lib.hid (fun W => ver_made W 24 ⟨y1, y2⟩)
      clear hy
      generalize hr : decide ((⟨y1, y2⟩ : Ver.V) ∈ B) = r at *
      go_wp2_with fail
      refine (FC.out).mono ?_
      rintro e w4 ⟨rfl, h4⟩
      have hW4 := (LA.out.trans h4).below
      have hI := hst.out.1.below hW4
      have hO := hst.out.2.1.below hW4
      have HA := Lib.hid hst.out.2.2
      obtain ⟨d0, d1⟩ := XB.out _ h4
      have HI := Lib.hid hI
      have HO := Lib.hid hO
      have OI := hI.1
      have OO := hO.1
      have hz4 : w2.heap.size ≤ w4.heap.size := hI.2.size
      clear hI hO hW4 h4 c0 c1
      cases r
      · have HT' : Hid ((S.take (n + 1)).filter (fun x => decide (x ∈ B)) = (S.take n).filter fun x => decide (x ∈ B)) := Lib.hid (by rw [HT.out]; first | (simp [hr]; done) | (simp; done))
        have HU' : Hid ((S.take (n + 1)).filter (fun x => !decide (x ∈ B)) = (S.take n).filter (fun x => !decide (x ∈ B)) ++ [⟨y1, y2⟩]) := Lib.hid (by rw [HU.out]; first | (simp [hr]; done) | (simp; done))
        clear HT HU hr
        generalize (S.take n).filter (fun x => decide (x ∈ B)) = p at *
        generalize (S.take n).filter (fun x => !decide (x ∈ B)) = q at *
        go_wp2_with (at_builtin; refine wp_joins (f := verV) (k := 2) rfl _ _ 22 rfl w2.heap.size 24 i0 (.agg #[.int .i64 0, .int .i64 0]) 16 Try.underlying22 hi0 hz0 hz1 hz2 rfl (by decide) rfl rfl (OO.alloc _) (Hmd.out _) (fun _ _ => rfl) (fun x _ => ver_one x) ?c1 ?c2 ?c3 ?_)
        case c1 => (have e1 := HLn.out; unfold maxLen; rw [show ([(⟨y1, y2⟩ : Ver.V)]).length = 1 from rfl]; omega)
        case c2 => (have e1 := HLn.out; rw [show ([(⟨y1, y2⟩ : Ver.V)]).length = 1 from rfl]; omega)
        case c3 => (first | omega | (simp; omega) | simp)
        intro v3 w5 own3 hg3 hn3
        have H5 := Lib.hid (two_more (x := (⟨y1, y2⟩ : Ver.V)) HO.out HI.out HA.out.symm (by simpa [verV] using own3) hg3 hn3)
        clear own3 hg3 hn3 OI OO
        go_wp2_with fail
        exact ⟨⟨n + 1, by omega, by go_num, Lib.hid (by rw [HT'.out, HU'.out]; exact ⟨H5.out.2.1, H5.out.1, H5.out.2.2.symm⟩)⟩, by show S.length - ((n : Int) + 1).toNat < S.length - (n : Int).toNat; omega⟩
      · have HT' : Hid ((S.take (n + 1)).filter (fun x => decide (x ∈ B)) = (S.take n).filter (fun x => decide (x ∈ B)) ++ [⟨y1, y2⟩]) := Lib.hid (by rw [HT.out]; first | (simp [hr]; done) | (simp; done))
        have HU' : Hid ((S.take (n + 1)).filter (fun x => !decide (x ∈ B)) = (S.take n).filter (fun x => !decide (x ∈ B))) := Lib.hid (by rw [HU.out]; first | (simp [hr]; done) | (simp; done))
        clear HT HU hr
        generalize (S.take n).filter (fun x => decide (x ∈ B)) = p at *
        generalize (S.take n).filter (fun x => !decide (x ∈ B)) = q at *
        go_wp2_with (at_builtin; refine wp_joins (f := verV) (k := 2) rfl _ _ 22 rfl w2.heap.size 24 i0 (.agg #[.int .i64 0, .int .i64 0]) 16 Try.underlying22 hi0 hz0 hz1 hz2 rfl (by decide) rfl rfl (OI.alloc _) (Hmd.out _) (fun _ _ => rfl) (fun x _ => ver_one x) ?c1 ?c2 ?c3 ?_)
        case c1 => (have e1 := HLn.out; unfold maxLen; rw [show ([(⟨y1, y2⟩ : Ver.V)]).length = 1 from rfl]; omega)
        case c2 => (have e1 := HLn.out; rw [show ([(⟨y1, y2⟩ : Ver.V)]).length = 1 from rfl]; omega)
        case c3 => (first | omega | (simp; omega) | simp)
        intro v3 w5 own3 hg3 hn3
        have H5 := Lib.hid (two_more (x := (⟨y1, y2⟩ : Ver.V)) HI.out HO.out HA.out (by simpa [verV] using own3) hg3 hn3)
        clear own3 hg3 hn3 OI OO
        go_wp2_with fail
        exact ⟨⟨n + 1, by omega, by go_num, Lib.hid (by rw [HT'.out, HU'.out]; exact ⟨H5.out.1, H5.out.2.1, H5.out.2.2⟩)⟩, by show S.length - ((n : Int) + 1).toNat < S.length - (n : Int).toNat; omega⟩
    · obtain rfl : n = S.length := by omega
      rw [List.take_length] at hst
      have HX : Hid (RowsOwn 24 2 verV w (Iset.meet a b) u4 wr ∧ RowsOwn 24 2 verV w (Iset.minus a b) u5 wr) := Lib.hid (by
        rw [← HM.out.1, ← HM.out.2, ← HIN.out, ← HOUT.out]
        exact ⟨hst.out.1.since HB2.out, hst.out.2.1.since HB2.out⟩)
      clear hst
      go_wp2_with fail
      go_ret2
      exact ⟨_, _, rfl, HX.out.1, HX.out.2⟩

set_option maxRecDepth 100000 in
theorem iset_meet (Z : VersOk) {w : World} {F G : Nat → Prop} {u v : Value} {a b : List Ver.V} (h : Vrs w F u a) (k : Vrs w G v b) (hl : a.length ≤ 1000000) (hk : b.length ≤ 1000000) :
    Calls Try.prog 18 #[u, v] w fun e w' => ∃ v', e = .returned v' ∧ RowsOwn 24 2 verV w (Iset.meet a b) v' w' := by
  have PA := Lib.hid (iset_part Z h k hl hk)
  clear h k
  go_enter Try.func18, Try.ntmps18
  go_wp2_with fail
  refine (PA.out).mono ?_
  rintro e w1 ⟨I, O, rfl, h1, -⟩
  have H1 := Lib.hid h1
  clear h1
  go_wp2_with fail
  go_ret
  exact ⟨_, rfl, H1.out⟩

set_option maxRecDepth 100000 in
theorem iset_minus (Z : VersOk) {w : World} {F G : Nat → Prop} {u v : Value} {a b : List Ver.V} (h : Vrs w F u a) (k : Vrs w G v b) (hl : a.length ≤ 1000000) (hk : b.length ≤ 1000000) :
    Calls Try.prog 20 #[u, v] w fun e w' => ∃ v', e = .returned v' ∧ RowsOwn 24 2 verV w (Iset.minus a b) v' w' := by
  have PA := Lib.hid (iset_part Z h k hl hk)
  clear h k
  go_enter Try.func20, Try.ntmps20
  go_wp2_with fail
  refine (PA.out).mono ?_
  rintro e w1 ⟨I, O, rfl, -, h1⟩
  have H1 := Lib.hid h1
  clear h1
  go_wp2_with fail
  go_ret
  exact ⟨_, rfl, H1.out⟩
end Go.Proofs.Ytnpnjophlajfkaa
