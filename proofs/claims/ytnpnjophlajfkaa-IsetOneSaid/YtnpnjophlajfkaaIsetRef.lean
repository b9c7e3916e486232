/- The document's own answers of layer 14: Has, Of, Minus, Meet; the law's few. -/
import Derived.Test.YtnpnjophlajfkaaIsetMath
import Derived.Test.YtnpnjophlajfkaaVerPut
set_option linter.unusedSimpArgs false
set_option linter.unusedVariables false
namespace Go.Proofs.Ytnpnjophlajfkaa
open Go.RowKit Go.Sort

set_option maxRecDepth 100000 in
theorem Iset.not_take {l : List Ver.V} {x y : Ver.V} {n : Nat} (hy : l[n]? = some y) (h : x ∉ l.take n) (hne : y ≠ x) : x ∉ l.take (n + 1) := by
  obtain ⟨h1, e1⟩ := List.getElem?_eq_some_iff.1 hy
  rw [List.take_succ_eq_append_getElem h1, e1]
  intro hx
  rcases List.mem_append.1 hx with hx | hx
  · exact h hx
  · exact hne (List.mem_singleton.1 hx).symm

set_option maxRecDepth 100000 in
/-- What came in as x lies in a block of its own. -/
theorem iset_boxed (w : World) (x1 x2 : Int) : ∀ W, Laid (w.alloc (.cells #[.int .i64 x1, .int .i64 x2] 24)) W → W.cell? ⟨w.heap.size, 0, none⟩ = some (.int .i64 x1) ∧ W.cell? ⟨w.heap.size, 1, none⟩ = some (.int .i64 x2) := fun W hW =>
  ⟨(hW.below.cell (p := ⟨w.heap.size, 0, none⟩) (by simp)).trans ((Row.made w 24 #[.int .i64 x1, .int .i64 x2]).at 0), (hW.below.cell (p := ⟨w.heap.size, 1, none⟩) (by simp)).trans ((Row.made w 24 #[.int .i64 x1, .int .i64 x2]).at 1)⟩

set_option maxRecDepth 100000 in
set_option maxHeartbeats 1600000 in
theorem ref_ihas {w : World} {F : Nat → Prop} {v : Value} {l : List Ver.V} (x : Ver.V) (h : Vrs w F v l) (hl : l.length ≤ 9000000) :
    Calls Try.prog 14 #[v, verA x] w fun e w' => e = .returned (.bool (decide (x ∈ l))) ∧ Laid w w' := by
  obtain ⟨A, cap, rfl, hcap⟩ := h.parts
  have H := Lib.hid h
  have hl' : (l.length : Int) ≤ 9000000 := by omega
  obtain ⟨x1, x2⟩ := x
  have LB := Lib.hid (Laid.new w (.cells #[.int .i64 x1, .int .i64 x2] 24))
  have XB := Lib.hid (iset_boxed w x1 x2)
  clear h
  go_enter Try.func14, Try.ntmps14
  go_wp2_with fail
  go_loopw [5] (fun i wr => ∃ n : Nat, n ≤ l.length ∧ i = .int .i64 (n : Int) ∧ Hid ((⟨x1, x2⟩ : Ver.V) ∉ l.take n) ∧ Laid (w.alloc (.cells #[.int .i64 x1, .int .i64 x2] 24)) wr) (fun i _ => l.length - (intOf i).toNat)
  case atStart => exact ⟨0, Nat.zero_le _, rfl, Lib.hid (by simp), Laid.refl _⟩
  case round =>
    obtain ⟨n, hn, rfl, hnot, hlaid⟩ := hrel
    have HL := Lib.hid (LB.out.trans hlaid)
    have HLD := Lib.hid hlaid
    by_cases hlt : n < l.length
    · obtain ⟨b, o, cap1, e, -, -, hb⟩ := H.out.block (by omega)
      injection e with e1 e2 e3
      subst e1 e3
      clear e2
      obtain ⟨y, hy⟩ : ∃ y, l[n]? = some y := ⟨_, List.getElem?_eq_getElem hlt⟩
      obtain ⟨c0, c1⟩ := Vrs.at (H.out.below HL.out.below) hy
      obtain ⟨q0, q1⟩ := XB.out _ hlaid
      have hn0 : (0 : Int) ≤ (n : Int) := by omega
      have hn1 : (n : Int) < (l.length : Int) := by omega
      clear hlaid
      by_cases hxy : y = ⟨x1, x2⟩
      · have hin : Hid ((⟨x1, x2⟩ : Ver.V) ∈ l) := Lib.hid (by rw [← hxy]; exact List.mem_of_getElem? hy)
        subst hxy
        simp only at c0 c1
        clear hy hnot
        go_wp2_with fail
        go_quiet (fail)
        go_wp2_with fail
        go_ret
        exact ⟨by rw [decide_eq_true hin.out]; rfl, HL.out.trans ⟨nq, #[], by rw [grow_empty]⟩⟩
      · have hnext := Lib.hid (Iset.not_take hy hnot.out hxy)
        obtain ⟨y1, y2⟩ := y
        simp only at c0 c1
        have hxy' : y1 = x1 → ¬ y2 = x2 := fun h k => hxy (by rw [h, k])
        clear hy hnot hxy
        by_cases h1 : y1 = x1
        · have h2 := hxy' h1
          subst h1
          clear hxy'
          go_wp2_with fail
          go_quiet (fail)
          go_wp2_with fail
          exact ⟨⟨n + 1, by omega, by go_num, hnext, HLD.out.trans ⟨nq, #[], by rw [grow_empty]⟩⟩, by show l.length - ((n : Int) + 1).toNat < l.length - (n : Int).toNat; omega⟩
        · clear hxy'
          go_wp2_with fail
          go_quiet (fail)
          go_wp2_with fail
          exact ⟨⟨n + 1, by omega, by go_num, hnext, HLD.out.trans ⟨nq, #[], by rw [grow_empty]⟩⟩, by show l.length - ((n : Int) + 1).toNat < l.length - (n : Int).toNat; omega⟩
    · obtain rfl : n = l.length := by omega
      have hout : Hid (¬ (⟨x1, x2⟩ : Ver.V) ∈ l) := Lib.hid (by have := hnot.out; rwa [List.take_length] at this)
      clear hlaid hnot
      go_wp2_with fail
      go_ret
      exact ⟨by rw [decide_eq_false hout.out]; rfl, HL.out⟩

set_option maxRecDepth 100000 in
set_option maxHeartbeats 1600000 in
theorem ref_iof {w : World} {F : Nat → Prop} {v : Value} {l : List Ver.V} (h : Vrs w F v l) (hl : l.length ≤ 1000000) :
    Calls Try.prog 7 #[v] w fun e w' => ∃ v', e = .returned v' ∧ RowsOwn 24 2 verV w (Ver.sort l) v' w' := by
  obtain ⟨A, cap, rfl, hcap⟩ := h.parts
  have H := Lib.hid h
  have hl' : (l.length : Int) ≤ 1000000 := by omega
  have HLn := Lib.hid hl
  clear h
  go_enter Try.func7, Try.ntmps7
  go_wp2_with fail
  go_loopw [3, 4] (fun out i wr => ∃ n : Nat, n ≤ l.length ∧ i = .int .i64 (n : Int) ∧ Hid (RowsOwn 24 2 verV w (Ver.sort (l.take n)) out wr)) (fun _ i _ => l.length - (intOf i).toNat)
  case atStart => exact ⟨0, Nat.zero_le _, rfl, Lib.hid (by rw [List.take_zero]; exact RowsOwn.start _ _ _ _)⟩
  case round =>
    obtain ⟨n, hn, rfl, hown⟩ := hrel
    by_cases hlt : n < l.length
    · obtain ⟨b, o, cap1, e, -, -, hb⟩ := H.out.block (by omega)
      injection e with e1 e2 e3
      subst e1 e3
      clear e2
      obtain ⟨y, hy⟩ : ∃ y, l[n]? = some y := ⟨_, List.getElem?_eq_getElem hlt⟩
      obtain ⟨c0, c1⟩ := Vrs.at (H.out.below hown.out.2) hy
      have hst := Lib.hid (Ver.sort_take l n y hy)
      have hn0 : (0 : Int) ≤ (n : Int) := by omega
      have hn1 : (n : Int) < (l.length : Int) := by omega
      have PU := Lib.hid (ref_put hown.out (by have := Ver.sort_len (l.take n); rw [List.length_take] at this; have := HLn.out; omega) y)
      clear hy
      go_wp2_with fail
      refine (PU.out).mono ?_
      rintro e w2 ⟨v2, rfl, h2⟩
      have H2 := Lib.hid h2
      clear h2
      go_wp2_with fail
      exact ⟨⟨n + 1, by omega, by go_num, by rw [hst.out]; exact H2⟩, by show l.length - ((n : Int) + 1).toNat < l.length - (n : Int).toNat; omega⟩
    · obtain rfl : n = l.length := by omega
      rw [List.take_length] at hown
      go_wp2_with fail
      go_ret
      exact ⟨_, rfl, hown.out⟩

set_option maxRecDepth 100000 in
set_option maxHeartbeats 1600000 in
theorem ref_iminus {w : World} {F G : Nat → Prop} {u v : Value} {a b : List Ver.V} (h : Vrs w F u a) (k : Vrs w G v b) (hl : a.length ≤ 1000000) (hk : b.length ≤ 9000000) :
    Calls Try.prog 16 #[u, v] w fun e w' => ∃ v', e = .returned v' ∧ RowsOwn 24 2 verV w (Iset.minus a b) v' w' := by
  obtain ⟨A, cap, rfl, hcap⟩ := h.parts
  have H := Lib.hid h
  have hl' : (a.length : Int) ≤ 1000000 := by omega
  have HLn := Lib.hid hl
  have HA := Lib.hid (fun (W : World) (hW : Below w.heap.size w W) (x : Ver.V) => ref_ihas x (k.below hW) hk)
  clear h k
  go_enter Try.func16, Try.ntmps16
  go_wp2_with fail
  go_loopw [5, 6] (fun out i wr => ∃ n : Nat, n ≤ a.length ∧ i = .int .i64 (n : Int) ∧ Hid (RowsOwn 24 2 verV w (Iset.minus (a.take n) b) out wr)) (fun _ i _ => a.length - (intOf i).toNat)
  case atStart => exact ⟨0, Nat.zero_le _, rfl, Lib.hid (by rw [List.take_zero]; exact RowsOwn.start _ _ _ _)⟩
  case round =>
    obtain ⟨n, hn, rfl, hown⟩ := hrel
    by_cases hlt : n < a.length
    · obtain ⟨bk, o, cap1, e, -, -, hb⟩ := H.out.block (by omega)
      injection e with e1 e2 e3
      subst e1 e3
      clear e2
      obtain ⟨y, hy⟩ : ∃ y, a[n]? = some y := ⟨_, List.getElem?_eq_getElem hlt⟩
      obtain ⟨c0, c1⟩ := Vrs.at (H.out.below hown.out.2) hy
      have hst := Lib.hid (Iset.minus_take a b n y hy)
      have hn0 : (0 : Int) ≤ (n : Int) := by omega
      have hn1 : (n : Int) < (a.length : Int) := by omega
      have HB := Lib.hid (HA.out _ hown.out.2 y)
      have Hy := Lib.hid hy
      clear hy
      by_cases hin : y ∈ b
      · have hst : Hid (Iset.minus (a.take (n + 1)) b = Iset.minus (a.take n) b) := Lib.hid (by rw [hst.out, if_pos hin])
        rw [decide_eq_true hin] at HB
        clear hin
        go_wp2_with fail
        refine (HB.out).mono ?_
        rintro e w2 ⟨rfl, h2⟩
        have H2 := Lib.hid (hown.out.below h2.below)
        clear h2
        go_wp2_with fail
        exact ⟨⟨n + 1, by omega, by go_num, by rw [hst.out]; exact H2⟩, by show a.length - ((n : Int) + 1).toNat < a.length - (n : Int).toNat; omega⟩
      · have hst : Hid (Iset.minus (a.take (n + 1)) b = Ver.put (Iset.minus (a.take n) b) y) := Lib.hid (by rw [hst.out, if_neg hin])
        rw [decide_eq_false hin] at HB
        clear hin c0 c1
        obtain ⟨c0, c1⟩ := Vrs.at (H.out.below hown.out.2) Hy.out
        go_wp2_with fail
        refine (HB.out).mono ?_
        rintro e w2 ⟨rfl, h2⟩
        have H2 := Lib.hid (hown.out.below h2.below)
        have PU := Lib.hid (ref_put H2.out (by have := Iset.minus_len (a.take n) b; rw [List.length_take] at this; have := HLn.out; omega) y)
        clear h2 c0 c1
        obtain ⟨c0, c1⟩ := Vrs.at (H.out.below H2.out.2) Hy.out
        go_wp2_with fail
        refine (PU.out).mono ?_
        rintro e w3 ⟨v3, rfl, h3⟩
        have H3 := Lib.hid h3
        clear h3
        go_wp2_with fail
        exact ⟨⟨n + 1, by omega, by go_num, by rw [hst.out]; exact H3⟩, by show a.length - ((n : Int) + 1).toNat < a.length - (n : Int).toNat; omega⟩
    · obtain rfl : n = a.length := by omega
      rw [List.take_length] at hown
      go_wp2_with fail
      go_ret
      exact ⟨_, rfl, hown.out⟩

set_option maxRecDepth 100000 in
set_option maxHeartbeats 1600000 in
theorem ref_imeet {w : World} {F G : Nat → Prop} {u v : Value} {a b : List Ver.V} (h : Vrs w F u a) (k : Vrs w G v b) (hl : a.length ≤ 1000000) (hk : b.length ≤ 9000000) :
    Calls Try.prog 19 #[u, v] w fun e w' => ∃ v', e = .returned v' ∧ RowsOwn 24 2 verV w (Iset.meet a b) v' w' := by
  obtain ⟨A, cap, rfl, hcap⟩ := h.parts
  have H := Lib.hid h
  have hl' : (a.length : Int) ≤ 1000000 := by omega
  have HLn := Lib.hid hl
  have HA := Lib.hid (fun (W : World) (hW : Below w.heap.size w W) (x : Ver.V) => ref_ihas x (k.below hW) hk)
  clear h k
  go_enter Try.func19, Try.ntmps19
  go_wp2_with fail
  go_loopw [5, 6] (fun out i wr => ∃ n : Nat, n ≤ a.length ∧ i = .int .i64 (n : Int) ∧ Hid (RowsOwn 24 2 verV w (Iset.meet (a.take n) b) out wr)) (fun _ i _ => a.length - (intOf i).toNat)
  case atStart => exact ⟨0, Nat.zero_le _, rfl, Lib.hid (by rw [List.take_zero]; exact RowsOwn.start _ _ _ _)⟩
  case round =>
    obtain ⟨n, hn, rfl, hown⟩ := hrel
    by_cases hlt : n < a.length
    · obtain ⟨bk, o, cap1, e, -, -, hb⟩ := H.out.block (by omega)
      injection e with e1 e2 e3
      subst e1 e3
      clear e2
      obtain ⟨y, hy⟩ : ∃ y, a[n]? = some y := ⟨_, List.getElem?_eq_getElem hlt⟩
      obtain ⟨c0, c1⟩ := Vrs.at (H.out.below hown.out.2) hy
      have hst := Lib.hid (Iset.meet_take a b n y hy)
      have hn0 : (0 : Int) ≤ (n : Int) := by omega
      have hn1 : (n : Int) < (a.length : Int) := by omega
      have HB := Lib.hid (HA.out _ hown.out.2 y)
      have Hy := Lib.hid hy
      clear hy
      by_cases hin : y ∈ b
      · have hst : Hid (Iset.meet (a.take (n + 1)) b = Ver.put (Iset.meet (a.take n) b) y) := Lib.hid (by rw [hst.out, if_pos hin])
        rw [decide_eq_true hin] at HB
        clear hin
        go_wp2_with fail
        refine (HB.out).mono ?_
        rintro e w2 ⟨rfl, h2⟩
        have H2 := Lib.hid (hown.out.below h2.below)
        have PU := Lib.hid (ref_put H2.out (by have := Iset.meet_len (a.take n) b; rw [List.length_take] at this; have := HLn.out; omega) y)
        clear h2 c0 c1
        obtain ⟨c0, c1⟩ := Vrs.at (H.out.below H2.out.2) Hy.out
        go_wp2_with fail
        refine (PU.out).mono ?_
        rintro e w3 ⟨v3, rfl, h3⟩
        have H3 := Lib.hid h3
        clear h3
        go_wp2_with fail
        exact ⟨⟨n + 1, by omega, by go_num, by rw [hst.out]; exact H3⟩, by show a.length - ((n : Int) + 1).toNat < a.length - (n : Int).toNat; omega⟩
      · have hst : Hid (Iset.meet (a.take (n + 1)) b = Iset.meet (a.take n) b) := Lib.hid (by rw [hst.out, if_neg hin])
        rw [decide_eq_false hin] at HB
        clear hin
        go_wp2_with fail
        refine (HB.out).mono ?_
        rintro e w2 ⟨rfl, h2⟩
        have H2 := Lib.hid (hown.out.below h2.below)
        clear h2
        go_wp2_with fail
        exact ⟨⟨n + 1, by omega, by go_num, by rw [hst.out]; exact H2⟩, by show a.length - ((n : Int) + 1).toNat < a.length - (n : Int).toNat; omega⟩
    · obtain rfl : n = a.length := by omega
      rw [List.take_length] at hown
      go_wp2_with fail
      go_ret
      exact ⟨_, rfl, hown.out⟩

set_option maxRecDepth 100000 in
/-- At most so many items. -/
theorem law14_few {w : World} {F : Nat → Prop} {v : Value} {l : List Ver.V} (h : Vrs w F v l) (hl : l.length ≤ 9223372036854775807) :
    Calls Try.prog 6 #[v] w fun e w' => ∃ v', e = .returned v' ∧ Vrs w F v' (l.take 50) ∧ w = w' := by
  obtain ⟨A, cap, rfl, hcap⟩ := h.parts
  have H := Lib.hid h
  clear h
  by_cases h50 : 50 < l.length
  · have g1 : (50 : Int) < (l.length : Int) := by omega
    have g2 : (50 : Int) ≤ (cap : Int) := by omega
    have HT := Lib.hid (H.out.take rfl 50 (by omega) cap (by omega))
    go_enter Try.func6, Try.ntmps6
    go_wp2_with fail
    go_ret
    exact ⟨_, rfl, HT.out, rfl⟩
  · have g1 : ¬ (50 : Int) < (l.length : Int) := by omega
    have HT : Hid (l.take 50 = l) := Lib.hid (List.take_of_length_le (by omega))
    go_enter Try.func6, Try.ntmps6
    go_wp2_with fail
    go_ret
    exact ⟨_, rfl, by rw [HT.out]; exact H.out, rfl⟩
end Go.Proofs.Ytnpnjophlajfkaa
