import Derived.Test.YtkcgmnhjofoeiaaGreatCom3
import Derived.Test.YtkcgmnhjofoeiaaGreatCom9
import Derived.Test.YtkcgmnhjofoeiaaGreatCom4
import Derived.Deep.QuietTactic
import Derived.Deep.RegionLaw
set_option maxRecDepth 100000
set_option linter.all false
set_option maxHeartbeats 12800000
namespace Go.Proofs.YtkcgmnhjofoeiaaGreat
open Go.RowKit
def boolV (b : Bool) : List Value := [.bool b]
abbrev Bools (w : World) (F : Nat → Prop) (v : Value) (l : List Bool) : Prop := Rws 1 boolV w F v l
theorem szBool : (Tryz.prog.info? 4).map (fun i => (i.zero, i.size, i.bytes)) = some (some (.bool false), 1, 1) := by kernel_rfl
theorem rangeInfo : (Tryz.prog.info? 85).map (fun i => (i.zero, i.size, i.bytes)) = some (some (.agg #[.int .i64 0, .int .i64 0]), 2, 16) := by kernel_rfl
theorem Bools.at {w : World} {F : Nat → Prop} {b o : Nat} {n cap : Nat} {l : List Bool} (h : Bools w F (.slice (some ⟨b, o, none⟩) n cap) l) {i : Nat} {x : Bool} (hx : l[i]? = some x) : w.cell? ⟨b, o + i, none⟩ = some (.bool x) := by
 obtain ⟨A, c, e, -, hat⟩ := h
 injection e with e1 e2 e3
 obtain ⟨b', o', e, -, -, hc⟩ := hat (by obtain ⟨hl, _⟩ := List.getElem?_eq_some_iff.1 hx; omega)
 rw [e] at e1
 injection e1 with e1
 injection e1 with e1 e2
 subst e1 e2
 have := hc i x hx 0 _ rfl
 rwa [Nat.mul_one, Nat.add_zero] at this
theorem holds_take {l : List Sz.Rg} {n : Nat} {x : Sz.Rg} (hx : l[n]? = some x) (N : Int) : Sz.holds (l.take (n + 1)) N = (Sz.holds (l.take n) N || decide (0 ≤ N ∧ N ≤ 200 ∧ x.1 ≤ N ∧ N ≤ x.2)) := by
 obtain ⟨hl, he⟩ := List.getElem?_eq_some_iff.1 hx
 rw [List.take_succ_eq_append_getElem hl, he]
 unfold Sz.holds
 rw [List.any_append]
 rw [Bool.eq_iff_iff]
 simp
 constructor
 ·rintro ⟨h1, h2 | h2⟩
  ·exact Or.inl ⟨h1, h2⟩
  ·exact Or.inr ⟨h1.1, h1.2, h2⟩
 ·rintro (⟨h1, h2⟩ | ⟨h1, h2, h3⟩)
  ·exact ⟨h1, Or.inl h2⟩
  ·exact ⟨⟨h1, h2⟩, Or.inr h3⟩
theorem holds_mono {l : List Sz.Rg} {n : Nat} {N : Int} (h : Sz.holds (l.take n) N = true) : Sz.holds l N = true := by
 unfold Sz.holds at h ⊢
 rw [Bool.and_eq_true, List.any_eq_true] at h ⊢
 obtain ⟨h1, r, hr, h2⟩ := h
 exact ⟨h1, r, List.mem_of_mem_take hr, h2⟩
theorem ref_holds {w : World} {F : Nat → Prop} {v : Value} {l : List Sz.Rg} (h : Rgs w F v l) (hl : l.length ≤ 1000000) (N : Int) :
  Calls Tryz.prog 129 #[v, .int .i64 N] w fun e w' => e = .returned (.bool (Sz.holds l N)) ∧ Below w.heap.size w w' := by
 obtain ⟨A, cap, rfl, hcap⟩ := h.slice
 have H := Lib.hid h
 have hl' : (l.length : Int) ≤ 1000000 := by omega
 clear h
 go_enter Tryz.func129, Tryz.ntmps129
 go_wp2_with fail
 go_loopw [5] (fun i wr => ∃ n : Nat, n ≤ l.length ∧ i = .int .i64 (n : Int) ∧ Hid (Sz.holds (l.take n) N = false) ∧ Below w.heap.size w wr) (fun i _ => l.length - (intOf i).toNat)
 case atStart => exact ⟨0, Nat.zero_le _, rfl, Lib.hid (by rw [List.take_zero, Sz.holds_nil]), Below.refl _ _⟩
 case round =>
  obtain ⟨n, hn, rfl, hno, hbel⟩ := hrel
  by_cases hlt : n < l.length
  ·obtain ⟨b, o, cap', e, -, -, hb⟩ := H.out.shape (by omega)
   injection e with e1 e2 e3
   subst e1 e3
   obtain ⟨x, hx⟩ : ∃ x, l[n]? = some x := ⟨_, List.getElem?_eq_getElem hlt⟩
   obtain ⟨c0, c1⟩ := Rgs.at (H.out.below (Below.refl _ _)) hx
   have c0 : wr.cell? ⟨b, o + n * 2, none⟩ = some (.int .i64 x.1) := (hbel.cell (p := ⟨b, o + n * 2, none⟩) hb).trans c0
   have c1 : wr.cell? ⟨b, o + n * 2 + 1, none⟩ = some (.int .i64 x.2) := (hbel.cell (p := ⟨b, o + n * 2 + 1, none⟩) hb).trans c1
   have hst := Lib.hid (holds_take hx N)
   have hn0 : (0 : Int) ≤ (n : Int) := by omega
   have hn1 : (n : Int) < (l.length : Int) := by omega
   have Hbel := Lib.hid hbel
   clear hx hbel
   obtain ⟨x1, x2⟩ := x
   simp only at c0 c1
   by_cases hyes : 0 ≤ N ∧ N ≤ 200 ∧ x1 ≤ N ∧ N ≤ x2
   ·obtain ⟨y1, y2, y3, y4⟩ := hyes
    have e1 : decide ((0 : Int) ≤ N) = true := decide_eq_true y1
    have e2 : decide (N ≤ (200 : Int)) = true := decide_eq_true y2
    have e3 : decide (x1 ≤ N) = true := decide_eq_true y3
    have e4 : decide (N ≤ x2) = true := decide_eq_true y4
    go_wp2_with fail
    go_ret
    refine ⟨?_, Hbel.out⟩
    rw [holds_mono (n := n + 1) (by rw [hst.out, decide_eq_true ⟨y1, y2, y3, y4⟩, Bool.or_true])]
    rfl
   ·have hnext : Hid (Sz.holds (l.take (n + 1)) N = false) := Lib.hid (by rw [hst.out, hno.out, decide_eq_false hyes]; rfl)
    have hall : ∀ {K : Prop}, (¬ 0 ≤ N → K) → (0 ≤ N → ¬ N ≤ 200 → K) → (0 ≤ N → N ≤ 200 → ¬ x1 ≤ N → K) → (0 ≤ N → N ≤ 200 → x1 ≤ N → ¬ N ≤ x2 → K) → K := by
     intro K k1 k2 k3 k4
     by_cases a1 : 0 ≤ N
     ·by_cases a2 : N ≤ 200
      ·by_cases a3 : x1 ≤ N
       ·exact k4 a1 a2 a3 (fun a4 => hyes ⟨a1, a2, a3, a4⟩)
       ·exact k3 a1 a2 a3
      ·exact k2 a1 a2
     ·exact k1 a1
    clear hyes hst
    refine hall ?_ ?_ ?_ ?_ <;> clear hall
    ·intro y1
     have e1 : decide ((0 : Int) ≤ N) = false := decide_eq_false y1
     go_wp2_with fail
     exact ⟨⟨n + 1, by omega, rfl, hnext, Hbel.out⟩, by show l.length - ((n : Int) + 1).toNat < l.length - (n : Int).toNat; omega⟩
    ·intro y1 y2
     have e1 : decide ((0 : Int) ≤ N) = true := decide_eq_true y1
     have e2 : decide (N ≤ (200 : Int)) = false := decide_eq_false y2
     go_wp2_with fail
     exact ⟨⟨n + 1, by omega, rfl, hnext, Hbel.out⟩, by show l.length - ((n : Int) + 1).toNat < l.length - (n : Int).toNat; omega⟩
    ·intro y1 y2 y3
     have e1 : decide ((0 : Int) ≤ N) = true := decide_eq_true y1
     have e2 : decide (N ≤ (200 : Int)) = true := decide_eq_true y2
     have e3 : decide (x1 ≤ N) = false := decide_eq_false y3
     go_wp2_with fail
     exact ⟨⟨n + 1, by omega, rfl, hnext, Hbel.out⟩, by show l.length - ((n : Int) + 1).toNat < l.length - (n : Int).toNat; omega⟩
    ·intro y1 y2 y3 y4
     have e1 : decide ((0 : Int) ≤ N) = true := decide_eq_true y1
     have e2 : decide (N ≤ (200 : Int)) = true := decide_eq_true y2
     have e3 : decide (x1 ≤ N) = true := decide_eq_true y3
     have e4 : decide (N ≤ x2) = false := decide_eq_false y4
     go_wp2_with fail
     exact ⟨⟨n + 1, by omega, rfl, hnext, Hbel.out⟩, by show l.length - ((n : Int) + 1).toNat < l.length - (n : Int).toNat; omega⟩
  ·obtain rfl : n = l.length := by omega
   have hno' : Hid (Sz.holds l N = false) := Lib.hid (by have := hno.out; rwa [List.take_length] at this)
   have Hbel := Lib.hid hbel
   clear hbel hno
   go_wp2_with fail
   go_ret
   exact ⟨by rw [hno'.out]; rfl, Hbel.out⟩
theorem range_more (g : Nat → Bool) (n : Nat) : (List.range (n + 1)).map g = (List.range n).map g ++ [g n] := by
 rw [List.range_succ, List.map_append]; rfl
theorem ref_of {w : World} {F : Nat → Prop} {v : Value} {l : List Sz.Rg} (h : Rgs w F v l) (hl : l.length ≤ 1000000) :
  Calls Tryz.prog 105 #[v] w fun e w' => ∃ v', e = .returned v' ∧ RowsOwn 4 1 boolV w (Sz.of l) v' w' := by
 obtain ⟨i0, hi, hz0, hz1, hz2⟩ := info_parts szBool
 have H := Lib.hid h
 clear h
 go_enter Tryz.func105, Tryz.ntmps105
 go_wp2_with fail
 go_loopw [3, 4] (fun o i wr => ∃ n : Nat, n ≤ 201 ∧ i = .int .i64 (n : Int) ∧ RowsOwn 4 1 boolV w ((List.range n).map fun (k : Nat) => Sz.holds l (k : Int)) o wr) (fun _ i _ => 201 - (intOf i).toNat)
 case atStart => exact ⟨0, Nat.zero_le _, rfl, RowsOwn.start _ _ _ w⟩
 case round =>
  obtain ⟨n, hn, rfl, hown⟩ := hrel
  by_cases hlt : n < 201
  ·have hle : (n : Int) ≤ 200 := by omega
   have C : Hid (Calls Tryz.prog 129 #[v, .int .i64 (n : Int)] wr fun e w' => e = .returned (.bool (Sz.holds l (n : Int))) ∧ Below wr.heap.size wr w') := Lib.hid (ref_holds (H.out.below hown.2) hl _)
   have hst := Lib.hid (range_more (fun (k : Nat) => Sz.holds l (k : Int)) n)
   have hlen : ((List.range n).map fun (k : Nat) => Sz.holds l (k : Int)).length = n := by simp
   generalize ((List.range n).map fun (k : Nat) => Sz.holds l (k : Int)) = out at *
   have Hown := Lib.hid hown
   clear hown
   generalize Sz.holds l (n : Int) = y at *
   go_wp2_with fail
   refine (C.out).mono ?_
   rintro e w1 ⟨rfl, hb1⟩
   have hown2 := Hown.out.below hb1
   have Hown2 := Lib.hid hown2
   have hown1 := hown2.1
   have hz := hown2.2.size
   have hc1 : ∀ {w1 : World} j u, [Value.bool y][j]? = some u → (w1.alloc (.cells #[.bool y] 4)).cell? ((⟨w1.heap.size, 0, none⟩ : Addr).add j) = some u := by
    intro w1 j u hj
    match j, hj with
    | 0, hj => simp at hj; subst hj; simp [Addr.add]
   clear hown2
   go_wp2_with (at_builtin; refine wpList_append_own _ rfl _ _ 130 rfl w.heap.size 4 i0 (.bool false) 1 1 Tryz.underlying130 hi hz0 hz1 hz2 rfl (by decide) _ _ _ rfl (hown1.alloc _) ⟨w1.heap.size, 0, none⟩ 1 1 [.bool y] rfl rfl hc1 ?c2 ?c3 ?c4 ?c5 ?_)
   case c2 => first | rfl | (intro u hu; simp at hu; subst hu; rfl)
   case c3 => unfold maxLen; omega
   case c4 => omega
   case c5 => first | omega | (simp; omega)
   intro v' w2 hown' hgrow' _
   have hnew := Hown2.out.more (x := y) (v' := v') (by rw [hlen]; exact hown') hgrow'
   clear hown' hgrow' hown1
   go_wp2
   go_roundw
   case rel => exact ⟨n + 1, by omega, by go_num, by rw [hst.out]; exact hnew⟩
   case measure => simp [intOf]; omega
  ·obtain rfl : n = 201 := by omega
   have Hown : Hid (RowsOwn 4 1 boolV w (Sz.of l) u3 wr) := Lib.hid hown
   clear hown
   go_wp2_with fail
   go_ret
   exact ⟨u3, rfl, Hown.out⟩
theorem formR_no {b : List Bool} {n : Nat} (h : b[n]? = some false) : Sz.formR n none (b.drop n) = Sz.formR (n + 1) none (b.drop (n + 1)) := by
 obtain ⟨hl, he⟩ := List.getElem?_eq_some_iff.1 h
 rw [List.drop_eq_getElem_cons hl, he]
 rfl
theorem formR_yes {b : List Bool} {n : Nat} (h : b[n]? = some true) : Sz.formR n none (b.drop n) = Sz.formR (n + 1) (some n) (b.drop (n + 1)) := by
 obtain ⟨hl, he⟩ := List.getElem?_eq_some_iff.1 h
 rw [List.drop_eq_getElem_cons hl, he]
 rfl
theorem formR_on {b : List Bool} {n lo : Nat} (h : b[n]? = some true) : Sz.formR n (some lo) (b.drop n) = Sz.formR (n + 1) (some lo) (b.drop (n + 1)) := by
 obtain ⟨hl, he⟩ := List.getElem?_eq_some_iff.1 h
 rw [List.drop_eq_getElem_cons hl, he]
 rfl
theorem formR_close {b : List Bool} {n lo : Nat} (h : ¬ b[n + 1]? = some true) : Sz.formR (n + 1) (some lo) (b.drop (n + 1)) = ((lo : Int), (n : Int)) :: Sz.formR (n + 1) none (b.drop (n + 1)) := by
 cases hd : b[n + 1]? with
 | none =>
  have : b.length ≤ n + 1 := List.getElem?_eq_none_iff.1 hd
  rw [List.drop_eq_nil_of_le this]
  unfold Sz.formR
  congr 2
  omega
 | some x =>
  cases x with
  | true => exact absurd hd h
  | false =>
   obtain ⟨hl, he⟩ := List.getElem?_eq_some_iff.1 hd
   rw [List.drop_eq_getElem_cons hl, he]
   show ((lo : Int), ((n + 1 : Nat) : Int) - 1) :: Sz.formR (n + 1 + 1) none _ = _ :: Sz.formR (n + 1) none (false :: _)
   have e : ((n + 1 : Nat) : Int) - 1 = (n : Int) := by omega
   rw [e]
   rfl
theorem ref_form {w : World} {F : Nat → Prop} {v : Value} {l : List Bool} (h : Bools w F v l) (hl : l.length ≤ 1000000) :
  Calls Tryz.prog 106 #[v] w fun e w' => ∃ v', e = .returned v' ∧ RowsOwn 85 2 rgV w (Sz.form l) v' w' := by
 obtain ⟨i0, hi, hz0, hz1, hz2⟩ := info_parts rangeInfo
 obtain ⟨A, cap, rfl, hcap⟩ := h.parts
 have H := Lib.hid h
 have hl' : (l.length : Int) ≤ 1000000 := by omega
 clear h
 go_enter Tryz.func106, Tryz.ntmps106
 go_wp2_with fail
 go_loopw [3, 4, 5] (fun o i q wr => ∃ (n : Nat) (out : List Sz.Rg), n ≤ l.length ∧ out.length ≤ n ∧ i = .int .i64 (n : Int) ∧ RowsOwn 85 2 rgV w out o wr ∧ Hid (Sz.form l = out ++ Sz.formR n none (l.drop n))) (fun _ i _ _ => l.length - (intOf i).toNat)
 case atStart => exact ⟨0, [], Nat.zero_le _, Nat.zero_le _, rfl, RowsOwn.start _ _ _ w, Lib.hid rfl⟩
 case round =>
  obtain ⟨n, out, hn, hol, rfl, hown, hform⟩ := hrel
  by_cases hlt : n < l.length
  ·obtain ⟨b, o, cap', e, -, -, hb⟩ := H.out.block (by omega)
   injection e with e1 e2 e3
   subst e1 e3
   have hcell : ∀ (i : Nat) (x : Bool), l[i]? = some x → wr.cell? ⟨b, o + i, none⟩ = some (.bool x) := fun i x hx => (hown.2.cell (p := ⟨b, o + i, none⟩) hb).trans (Bools.at (H.out.below (Below.refl _ _)) hx)
   have Hcell := Lib.hid hcell
   clear hcell
   obtain ⟨x, hx⟩ : ∃ x, l[n]? = some x := ⟨_, List.getElem?_eq_getElem hlt⟩
   have c0 := Hcell.out n x hx
   have hn0 : (0 : Int) ≤ (n : Int) := by omega
   have hn1 : (n : Int) < (l.length : Int) := by omega
   have Hown := Lib.hid hown
   clear hown
   cases x with
   | false =>
    have hform' : Hid (Sz.form l = out ++ Sz.formR (n + 1) none (l.drop (n + 1))) := Lib.hid (by rw [hform.out, formR_no hx])
    clear hform hx
    go_wp2_with fail
    refine ⟨⟨n + 1, out, by omega, by omega, rfl, Hown.out, hform'⟩, ?_⟩
    show l.length - ((n : Int) + 1).toNat < l.length - (n : Int).toNat
    omega
   | true =>
    have hform' : Hid (Sz.form l = out ++ Sz.formR (n + 1) (some n) (l.drop (n + 1))) := Lib.hid (by rw [hform.out, formR_yes hx])
    clear hform hx
    go_wp2_with fail
    go_loopw [4] (fun i wi => ∃ m : Nat, n ≤ m ∧ m < l.length ∧ i = .int .i64 (m : Int) ∧ wi = wr ∧ Hid (Sz.form l = out ++ Sz.formR (m + 1) (some n) (l.drop (m + 1)))) (fun i _ => l.length - (intOf i).toNat)
    case atStart => exact ⟨n, Nat.le_refl _, hlt, rfl, rfl, hform'⟩
    case round =>
     obtain ⟨m, hm, hml, rfl, rfl, hf⟩ := hrel
     have hm0 : (0 : Int) ≤ (m : Int) := by omega
     have hm1 : (m : Int) < (l.length : Int) := by omega
     have hm2 : (0 : Int) ≤ (m : Int) + 1 := by omega
     clear hform'
     by_cases hyes : l[m + 1]? = some true
     ·have hlt1 : m + 1 < l.length := (List.getElem?_eq_some_iff.1 hyes).1
      have hlt2 : (m : Int) + 1 < (l.length : Int) := by omega
      have c1 := Hcell.out (m + 1) true hyes
      have hf' : Hid (Sz.form l = out ++ Sz.formR (m + 1 + 1) (some n) (l.drop (m + 1 + 1))) := Lib.hid (by rw [hf.out, formR_on hyes])
      clear hf hyes
      go_wp2_with fail
      refine ⟨⟨m + 1, by omega, by omega, rfl, trivial, hf'⟩, ?_⟩
      show l.length - ((m : Int) + 1).toNat < l.length - (m : Int).toNat
      omega
     ·have hf' : Hid (Sz.form l = (out ++ [((n : Int), (m : Int))]) ++ Sz.formR (m + 1) none (l.drop (m + 1))) := Lib.hid (by rw [hf.out, formR_close hyes]; simp)
      have hown1 := Hown.out.1
      have hz := Hown.out.2.size
      have hc1 : ∀ {w1 : World} j u, [Value.int .i64 (n : Int), Value.int .i64 (m : Int)][j]? = some u → (w1.alloc (.cells #[.int .i64 (n : Int), .int .i64 (m : Int)] 85)).cell? ((⟨w1.heap.size, 0, none⟩ : Addr).add j) = some u := by
       intro w1 j u hj
       rw [Go.WideShapes.add_plain, (Row.made w1 _ _).at, Nat.zero_add]
       match j, hj with
       | 0, hj => simpa using hj
       | 1, hj => simpa using hj
      by_cases hend : m + 1 < l.length
      ·have hlt2 : (m : Int) + 1 < (l.length : Int) := by omega
       have c1 : wr.cell? ⟨b, o + (m + 1), none⟩ = some (.bool false) := by
        obtain ⟨y, hy⟩ : ∃ y, l[m + 1]? = some y := ⟨_, List.getElem?_eq_getElem hend⟩
        cases y with
        | true => exact absurd hy hyes
        | false => exact Hcell.out (m + 1) false hy
       clear hf hyes
       go_wp2_with (at_builtin; refine wpList_append_own _ rfl _ _ 82 rfl w.heap.size 85 i0 (.agg #[.int .i64 0, .int .i64 0]) 2 16 Tryz.underlying82 hi hz0 hz1 hz2 rfl (by decide) _ _ _ rfl (hown1.alloc _) ⟨wr.heap.size, 0, none⟩ 1 1 [.int .i64 (n : Int), .int .i64 (m : Int)] rfl rfl hc1 ?c2 ?c3 ?c4 ?c5 ?_)
       case c2 => first | exact ⟨rfl, rfl⟩ | exact rg_one ((n : Int), (m : Int))
       case c3 => unfold maxLen; omega
       case c4 => omega
       case c5 => first | omega | (simp; omega)
       intro v' w2 hown' hgrow' _
       have hnew := Hown.out.more (x := ((n : Int), (m : Int))) (v' := v') hown' hgrow'
       clear hown' hgrow' hown1
       go_wp2
       go_roundw
       case rel => exact ⟨m + 1, out ++ [((n : Int), (m : Int))], by omega, by rw [List.length_append]; simp; omega, by go_num, hnew, hf'⟩
       case measure => simp [intOf]; omega
      ·have hlt2 : ¬ (m : Int) + 1 < (l.length : Int) := by omega
       clear hf hyes
       go_wp2_with (at_builtin; refine wpList_append_own _ rfl _ _ 82 rfl w.heap.size 85 i0 (.agg #[.int .i64 0, .int .i64 0]) 2 16 Tryz.underlying82 hi hz0 hz1 hz2 rfl (by decide) _ _ _ rfl (hown1.alloc _) ⟨wr.heap.size, 0, none⟩ 1 1 [.int .i64 (n : Int), .int .i64 (m : Int)] rfl rfl hc1 ?c2 ?c3 ?c4 ?c5 ?_)
       case c2 => first | exact ⟨rfl, rfl⟩ | exact rg_one ((n : Int), (m : Int))
       case c3 => unfold maxLen; omega
       case c4 => omega
       case c5 => first | omega | (simp; omega)
       intro v' w2 hown' hgrow' _
       have hnew := Hown.out.more (x := ((n : Int), (m : Int))) (v' := v') hown' hgrow'
       clear hown' hgrow' hown1
       go_wp2
       go_roundw
       case rel => exact ⟨m + 1, out ++ [((n : Int), (m : Int))], by omega, by rw [List.length_append]; simp; omega, by go_num, hnew, hf'⟩
       case measure => simp [intOf]; omega
  ·obtain rfl : n = l.length := by omega
   have Hown : Hid (RowsOwn 85 2 rgV w (Sz.form l) u3 wr) := Lib.hid (by
    rw [hform.out, List.drop_length]
    show RowsOwn _ 2 rgV w (out ++ []) u3 wr
    rw [List.append_nil]; exact hown)
   clear hown hform
   go_wp2_with fail
   go_ret
   exact ⟨u3, rfl, Hown.out⟩
def pickAt (k : Nat) (a b : List Sz.Rg) (i : Nat) : Bool := Sz.pick k (Sz.holds a (i : Int)) (Sz.holds b (i : Int))
theorem ref_two {w : World} {F G : Nat → Prop} {u v : Value} {a b : List Sz.Rg} (ha : Rgs w F u a) (hb : Rgs w G v b) (la : a.length ≤ 1000000) (lb : b.length ≤ 1000000) (k : Nat) (hk : k ≤ 2) :
  Calls Tryz.prog 83 #[u, v, .int .i64 (k : Int)] w fun e w' => ∃ v', e = .returned v' ∧ RowsOwn 85 2 rgV w (Sz.two k a b) v' w' := by
 obtain ⟨i0, hi, hz0, hz1, hz2⟩ := info_parts szBool
 have HA := Lib.hid ha
 have HB := Lib.hid hb
 clear ha hb
 go_enter Tryz.func83, Tryz.ntmps83
 go_wp2_with fail
 refine (ref_of HA.out la).mono ?_
 rintro e w1 ⟨v1, rfl, h1⟩
 have H1 := Lib.hid h1
 clear h1
 go_wp2_with fail
 refine (ref_of (HB.out.below H1.out.2) lb).mono ?_
 rintro e w2 ⟨v2, rfl, h2⟩
 have hx : Bools w2 (NewIn w w1) v1 (Sz.of a) := (H1.out.rows (fun _ _ => rfl)).below h2.2
 have hy : Bools w2 (NewIn w1 w2) v2 (Sz.of b) := h2.rows (fun _ _ => rfl)
 have hw2 : Below w.heap.size w w2 := H1.out.2.trans (h2.2.mono H1.out.2.size)
 clear h2
 obtain ⟨b1, o1, c1, rfl, -, -, hb1⟩ := hx.block (by rw [Sz.of_len]; omega)
 obtain ⟨b2, o2, c2, rfl, -, -, hb2⟩ := hy.block (by rw [Sz.of_len]; omega)
 have HX : Hid (∀ (i : Nat) (x : Bool), (Sz.of a)[i]? = some x → w2.cell? ⟨b1, o1 + i, none⟩ = some (.bool x)) := Lib.hid (fun i x h => Bools.at hx h)
 have HY : Hid (∀ (i : Nat) (x : Bool), (Sz.of b)[i]? = some x → w2.cell? ⟨b2, o2 + i, none⟩ = some (.bool x)) := Lib.hid (fun i x h => Bools.at hy h)
 rw [Sz.of_len, Sz.of_len]
 have Hw2 := Lib.hid hw2
 clear hx hy hw2
 go_wp2_with fail
 go_loopw [9, 10, 11] (fun o i q wr => ∃ n : Nat, n ≤ 201 ∧ i = .int .i64 (n : Int) ∧ RowsOwn 4 1 boolV w2 ((List.range n).map (pickAt k a b)) o wr) (fun _ i _ _ => 201 - (intOf i).toNat)
 case atStart => exact ⟨0, Nat.zero_le _, rfl, RowsOwn.start _ _ _ w2⟩
 case round =>
  obtain ⟨n, hn, rfl, hown⟩ := hrel
  by_cases hlt : n < 201
  ·have hle : (n : Int) ≤ 200 := by omega
   have hn0 : (0 : Int) ≤ (n : Int) := by omega
   have hn1 : (n : Int) < 201 := by omega
   have d1 : wr.cell? ⟨b1, o1 + n, none⟩ = some (.bool (Sz.holds a (n : Int))) := (hown.2.cell (p := ⟨b1, o1 + n, none⟩) hb1).trans (HX.out n _ (Sz.of_at a n hlt))
   have d2 : wr.cell? ⟨b2, o2 + n, none⟩ = some (.bool (Sz.holds b (n : Int))) := (hown.2.cell (p := ⟨b2, o2 + n, none⟩) hb2).trans (HY.out n _ (Sz.of_at b n hlt))
   have hst := Lib.hid (range_more (pickAt k a b) n)
   have hlen : ((List.range n).map (pickAt k a b)).length = n := by simp
   have hpick : pickAt k a b n = Sz.pick k (Sz.holds a (n : Int)) (Sz.holds b (n : Int)) := rfl
   generalize ((List.range n).map (pickAt k a b)) = out at *
   generalize Sz.holds a (n : Int) = x at *
   generalize Sz.holds b (n : Int) = y at *
   have Hown := Lib.hid hown
   have hown1 := hown.1
   have hz := hown.2.size
   have hc1 : ∀ (y : Bool) {w1 : World} j u, [Value.bool y][j]? = some u → (w1.alloc (.cells #[.bool y] 4)).cell? ((⟨w1.heap.size, 0, none⟩ : Addr).add j) = some u := by
    intro y w1 j u hj
    match j, hj with
    | 0, hj => simp at hj; subst hj; simp [Addr.add]
   clear hown
   rcases (show k = 0 ∨ k = 1 ∨ k = 2 by omega) with rfl | rfl | rfl <;> rcases x.eq_false_or_eq_true with rfl | rfl
   ·-- kind 0, the first has it: true
    have hst' : Hid ((List.range (n + 1)).map (pickAt 0 a b) = out ++ [true]) := Lib.hid (by rw [hst.out, hpick]; rfl)
    clear hst hpick
    go_wp2_with (at_builtin; refine wpList_append_own _ rfl _ _ 130 rfl w2.heap.size 4 i0 (.bool false) 1 1 Tryz.underlying130 hi hz0 hz1 hz2 rfl (by decide) _ _ _ rfl (hown1.alloc _) ⟨wr.heap.size, 0, none⟩ 1 1 [.bool (true)] rfl rfl (hc1 (true)) ?c2 ?c3 ?c4 ?c5 ?_)
    case c2 => first | rfl | (intro u hu; simp at hu; subst hu; rfl)
    case c3 => unfold maxLen; omega
    case c4 => omega
    case c5 => first | omega | (simp; omega)
    intro v' w3 hown' hgrow' _
    have hnew := Hown.out.more (x := (true)) (v' := v') (by rw [hlen]; exact hown') hgrow'
    clear hown' hgrow' hown1
    go_wp2_with fail
    refine ⟨⟨_, _, _, _, _, _, _, _, _, _, _, _, _, _, _, _, _, _, _, _, _, _, _, _, _, _, _, _, _, _, _, _, _, _, _, _, _, _, _, _, _, _, _, _, _, _, ⟨n + 1, by omega, rfl, by rw [hst'.out]; exact hnew⟩, rfl⟩, ?_⟩
    show 201 - ((n : Int) + 1).toNat < 201 - (n : Int).toNat
    omega
   ·-- kind 0, the first has it: false
    have hst' : Hid ((List.range (n + 1)).map (pickAt 0 a b) = out ++ [y]) := Lib.hid (by rw [hst.out, hpick]; rfl)
    clear hst hpick
    go_wp2_with (at_builtin; refine wpList_append_own _ rfl _ _ 130 rfl w2.heap.size 4 i0 (.bool false) 1 1 Tryz.underlying130 hi hz0 hz1 hz2 rfl (by decide) _ _ _ rfl (hown1.alloc _) ⟨wr.heap.size, 0, none⟩ 1 1 [.bool (y)] rfl rfl (hc1 (y)) ?c2 ?c3 ?c4 ?c5 ?_)
    case c2 => first | rfl | (intro u hu; simp at hu; subst hu; rfl)
    case c3 => unfold maxLen; omega
    case c4 => omega
    case c5 => first | omega | (simp; omega)
    intro v' w3 hown' hgrow' _
    have hnew := Hown.out.more (x := (y)) (v' := v') (by rw [hlen]; exact hown') hgrow'
    clear hown' hgrow' hown1
    go_wp2_with fail
    refine ⟨⟨_, _, _, _, _, _, _, _, _, _, _, _, _, _, _, _, _, _, _, _, _, _, _, _, _, _, _, _, _, _, _, _, _, _, _, _, _, _, _, _, _, _, _, _, _, _, ⟨n + 1, by omega, rfl, by rw [hst'.out]; exact hnew⟩, rfl⟩, ?_⟩
    show 201 - ((n : Int) + 1).toNat < 201 - (n : Int).toNat
    omega
   ·-- kind 1, the first has it: true
    have hst' : Hid ((List.range (n + 1)).map (pickAt 1 a b) = out ++ [y]) := Lib.hid (by rw [hst.out, hpick]; rfl)
    clear hst hpick
    go_wp2_with (at_builtin; refine wpList_append_own _ rfl _ _ 130 rfl w2.heap.size 4 i0 (.bool false) 1 1 Tryz.underlying130 hi hz0 hz1 hz2 rfl (by decide) _ _ _ rfl (hown1.alloc _) ⟨wr.heap.size, 0, none⟩ 1 1 [.bool (y)] rfl rfl (hc1 (y)) ?c2 ?c3 ?c4 ?c5 ?_)
    case c2 => first | rfl | (intro u hu; simp at hu; subst hu; rfl)
    case c3 => unfold maxLen; omega
    case c4 => omega
    case c5 => first | omega | (simp; omega)
    intro v' w3 hown' hgrow' _
    have hnew := Hown.out.more (x := (y)) (v' := v') (by rw [hlen]; exact hown') hgrow'
    clear hown' hgrow' hown1
    go_wp2_with fail
    refine ⟨⟨_, _, _, _, _, _, _, _, _, _, _, _, _, _, _, _, _, _, _, _, _, _, _, _, _, _, _, _, _, _, _, _, _, _, _, _, _, _, _, _, _, _, _, _, _, _, ⟨n + 1, by omega, rfl, by rw [hst'.out]; exact hnew⟩, rfl⟩, ?_⟩
    show 201 - ((n : Int) + 1).toNat < 201 - (n : Int).toNat
    omega
   ·-- kind 1, the first has it: false
    have hst' : Hid ((List.range (n + 1)).map (pickAt 1 a b) = out ++ [false]) := Lib.hid (by rw [hst.out, hpick]; rfl)
    clear hst hpick
    go_wp2_with (at_builtin; refine wpList_append_own _ rfl _ _ 130 rfl w2.heap.size 4 i0 (.bool false) 1 1 Tryz.underlying130 hi hz0 hz1 hz2 rfl (by decide) _ _ _ rfl (hown1.alloc _) ⟨wr.heap.size, 0, none⟩ 1 1 [.bool (false)] rfl rfl (hc1 (false)) ?c2 ?c3 ?c4 ?c5 ?_)
    case c2 => first | rfl | (intro u hu; simp at hu; subst hu; rfl)
    case c3 => unfold maxLen; omega
    case c4 => omega
    case c5 => first | omega | (simp; omega)
    intro v' w3 hown' hgrow' _
    have hnew := Hown.out.more (x := (false)) (v' := v') (by rw [hlen]; exact hown') hgrow'
    clear hown' hgrow' hown1
    go_wp2_with fail
    refine ⟨⟨_, _, _, _, _, _, _, _, _, _, _, _, _, _, _, _, _, _, _, _, _, _, _, _, _, _, _, _, _, _, _, _, _, _, _, _, _, _, _, _, _, _, _, _, _, _, ⟨n + 1, by omega, rfl, by rw [hst'.out]; exact hnew⟩, rfl⟩, ?_⟩
    show 201 - ((n : Int) + 1).toNat < 201 - (n : Int).toNat
    omega
   ·-- kind 2, the first has it: true
    have hst' : Hid ((List.range (n + 1)).map (pickAt 2 a b) = out ++ [!y]) := Lib.hid (by rw [hst.out, hpick]; rfl)
    clear hst hpick
    go_wp2_with (at_builtin; refine wpList_append_own _ rfl _ _ 130 rfl w2.heap.size 4 i0 (.bool false) 1 1 Tryz.underlying130 hi hz0 hz1 hz2 rfl (by decide) _ _ _ rfl (hown1.alloc _) ⟨wr.heap.size, 0, none⟩ 1 1 [.bool (!y)] rfl rfl (hc1 (!y)) ?c2 ?c3 ?c4 ?c5 ?_)
    case c2 => first | rfl | (intro u hu; simp at hu; subst hu; rfl)
    case c3 => unfold maxLen; omega
    case c4 => omega
    case c5 => first | omega | (simp; omega)
    intro v' w3 hown' hgrow' _
    have hnew := Hown.out.more (x := (!y)) (v' := v') (by rw [hlen]; exact hown') hgrow'
    clear hown' hgrow' hown1
    go_wp2_with fail
    refine ⟨⟨_, _, _, _, _, _, _, _, _, _, _, _, _, _, _, _, _, _, _, _, _, _, _, _, _, _, _, _, _, _, _, _, _, _, _, _, _, _, _, _, _, _, _, _, _, _, ⟨n + 1, by omega, rfl, by rw [hst'.out]; exact hnew⟩, rfl⟩, ?_⟩
    show 201 - ((n : Int) + 1).toNat < 201 - (n : Int).toNat
    omega
   ·-- kind 2, the first has it: false
    have hst' : Hid ((List.range (n + 1)).map (pickAt 2 a b) = out ++ [false]) := Lib.hid (by rw [hst.out, hpick]; rfl)
    clear hst hpick
    go_wp2_with (at_builtin; refine wpList_append_own _ rfl _ _ 130 rfl w2.heap.size 4 i0 (.bool false) 1 1 Tryz.underlying130 hi hz0 hz1 hz2 rfl (by decide) _ _ _ rfl (hown1.alloc _) ⟨wr.heap.size, 0, none⟩ 1 1 [.bool (false)] rfl rfl (hc1 (false)) ?c2 ?c3 ?c4 ?c5 ?_)
    case c2 => first | rfl | (intro u hu; simp at hu; subst hu; rfl)
    case c3 => unfold maxLen; omega
    case c4 => omega
    case c5 => first | omega | (simp; omega)
    intro v' w3 hown' hgrow' _
    have hnew := Hown.out.more (x := (false)) (v' := v') (by rw [hlen]; exact hown') hgrow'
    clear hown' hgrow' hown1
    go_wp2_with fail
    refine ⟨⟨_, _, _, _, _, _, _, _, _, _, _, _, _, _, _, _, _, _, _, _, _, _, _, _, _, _, _, _, _, _, _, _, _, _, _, _, _, _, _, _, _, _, _, _, _, _, ⟨n + 1, by omega, rfl, by rw [hst'.out]; exact hnew⟩, rfl⟩, ?_⟩
    show 201 - ((n : Int) + 1).toNat < 201 - (n : Int).toNat
    omega
  ·obtain rfl : n = 201 := by omega
   have C : Hid (Calls Tryz.prog 106 #[u9] wr fun e w' => ∃ v', e = .returned v' ∧ RowsOwn 85 2 rgV wr (Sz.two k a b) v' w') := Lib.hid (ref_form (hown.rows (fun _ _ => rfl)) (by simp))
   have Hown := Lib.hid hown
   clear hown
   go_wp2_with fail
   refine (C.out).mono ?_
   rintro e w4 ⟨v4, rfl, h4⟩
   have h5 : Hid (RowsOwn 85 2 rgV w (Sz.two k a b) v4 w4) := Lib.hid (h4.since (Hw2.out.trans (Hown.out.2.mono Hw2.out.size)))
   clear h4
   go_wp2_with fail
   go_ret
   exact ⟨v4, rfl, h5.out⟩
open Go.RowKit
namespace Pth
def Cut (s : Tx) (D : List Tx) (p i : Nat) : Prop := p ≤ i ∧ i ≤ s.length ∧ split s = D ++ splitA ((s.take i).drop p) (s.drop i) ∧ D.length ≤ i
theorem cut_start (s : Tx) : Cut s [] 0 0 := ⟨Nat.le_refl _, Nat.zero_le _, by simp [split], Nat.le_refl _⟩
theorem cut_end {s : Tx} {D : List Tx} {p : Nat} (h : Cut s D p s.length) : split s = D ++ [s.drop p] := by
 have := h.2.2.1
 rw [List.take_length, List.drop_length] at this
 exact this
theorem cut_next {s : Tx} {D : List Tx} {p i : Nat} {c : UInt8} (h : Cut s D p i) (hc : s[i]? = some c) : if c.toNat = 47 then Cut s (D ++ [(s.take i).drop p]) (i + 1) (i + 1) else Cut s D p (i + 1) := by
 obtain ⟨h1, h2, h3, h4⟩ := h
 obtain ⟨hl, he⟩ := List.getElem?_eq_some_iff.1 hc
 have hd : s.drop i = c :: s.drop (i + 1) := by rw [List.drop_eq_getElem_cons hl, he]
 rw [hd] at h3
 unfold splitA at h3
 split
 ·rename_i h7
  rw [if_pos h7] at h3
  refine ⟨Nat.le_refl _, hl, ?_, by rw [List.length_append]; simp; omega⟩
  rw [h3, List.append_assoc]
  congr 2
  have : (s.take (i + 1)).drop (i + 1) = [] := List.drop_of_length_le (by rw [List.length_take]; omega)
  rw [this]
  rfl
 ·rename_i h7
  rw [if_neg h7] at h3
  refine ⟨by omega, hl, ?_, by omega⟩
  rw [h3]
  congr 2
  rw [List.take_succ_eq_append_getElem hl, he, List.drop_append_of_le_length (by rw [List.length_take]; omega)]
end Pth
theorem ref_split (s : List UInt8) (w : World) (hs : s.length ≤ 100000) :
  Calls Tryz.prog 108 #[.string (mk s), .int .u8 47] w fun e w' => ∃ v, e = .returned v ∧ Cells w' (NewIn w w') v (texts (Pth.split s)) ∧ Below w.heap.size w w' := by
 obtain ⟨i0, hi, hz0, hz1, hz2⟩ := info_parts strInfo
 have ls : (mk s).size = s.length := mk_len s
 have hS : ((mk s).size : Int) ≤ 100000 := by rw [ls]; omega
 have Ls := Lib.hid ls
 clear ls
 generalize hxs : mk s = xs at *
 have Hxs := Lib.hid hxs
 go_enter Tryz.func108, Tryz.ntmps108
 go_wp2_with fail
 go_loopw [5, 6, 7] (fun o p i wr => ∃ (D : List (List UInt8)) (at_ k : Nat), p = .int .i64 (at_ : Int) ∧ i = .int .i64 (k : Int) ∧ Pth.Cut s D at_ k ∧ TextsOwn w D o wr) (fun _ _ i _ => s.length - (intOf i).toNat)
 case atStart => exact ⟨[], 0, 0, rfl, rfl, Pth.cut_start s, texts_start w⟩
 case round =>
  obtain ⟨D, p, k, rfl, rfl, hcut, hown⟩ := hrel
  have hk0 : (0 : Int) ≤ (k : Int) := by omega
  have hp0 : (0 : Int) ≤ (p : Int) := by omega
  have hpk : (p : Int) ≤ (k : Int) := by have := hcut.1; omega
  have hks : (k : Int) ≤ (xs.size : Int) := by have := hcut.2.1; have := Ls.out; omega
  have hDl : Hid (D.length ≤ 100000) := Lib.hid (by have := hcut.2.2.2; have := hcut.2.1; omega)
  by_cases hlt : k < s.length
  ·have hk1 : (k : Int) < (xs.size : Int) := by have := Ls.out; omega
   obtain ⟨c, hc, ic⟩ := idx xs k (by have := Ls.out; omega)
   have hsc : s[k]? = some c := by rw [← hc, ← Hxs.out, mk_data]
   have hnext := Pth.cut_next hcut hsc
   by_cases h7 : c.toNat = 47
   ·rw [if_pos h7] at hnext
    have hb1 : ((c.toNat : Int) == 47) = true := by rw [h7]; rfl
    have hext : xs.extract p k = mk ((s.take k).drop p) := by
     rw [← Hxs.out]
     exact bytes_ext (by rw [Lib.extract_data, mk_data, mk_data, List.take_drop, Nat.add_sub_cancel' (by omega)])
    have Hnext := Lib.hid hnext
    have Hown := Lib.hid hown
    have hz := hown.2.size
    have hown1 := hown.1
    clear hc hsc hnext hcut hown h7
    generalize c.toNat = cn at *
    generalize hx1 : mk ((s.take k).drop p) = x1 at *
    have hc1 : ∀ {w1 : World} j u, [Value.string x1][j]? = some u → (w1.alloc (.cells #[.string x1] 9)).cell? ((⟨w1.heap.size, 0, none⟩ : Addr).add j) = some u := by
     intro w1 j u hj
     match j, hj with
     | 0, hj => simp at hj; subst hj; simp [Addr.add]
    go_wp2_with (at_builtin; refine wpList_append_own _ rfl _ _ 80 rfl w.heap.size 9 i0 (.string ⟨#[]⟩) 1 16 Tryz.underlying80 hi hz0 hz1 hz2 rfl (by decide) _ _ _ rfl (hown1.alloc _) ⟨wr.heap.size, 0, none⟩ 1 1 [.string x1] rfl rfl hc1 ?c2 ?c3 ?c4 ?c5 ?_)
    case c2 => first | rfl | (intro u hu; simp at hu; subst hu; rfl)
    case c3 => have := hDl.out; unfold maxLen; omega
    case c4 => have := hDl.out; omega
    case c5 => first | omega | (simp; omega)
    intro v' w2 hown' hgrow' _
    have hnew := texts_more Hown.out (x := (s.take k).drop p) (v' := v') (by rw [hx1]; simpa using hown') hgrow'
    clear hown' hgrow' hown1
    go_wp2
    go_roundw
    case rel => exact ⟨_, k + 1, k + 1, by go_num, by go_num, Hnext.out, hnew⟩
    case measure => simp [intOf]; omega
   ·rw [if_neg h7] at hnext
    have hb1 : ((c.toNat : Int) == 47) = false := by rw [beq_eq_false_iff_ne]; omega
    have Hnext := Lib.hid hnext
    have Hown := Lib.hid hown
    clear hc hsc hnext hcut hown h7
    generalize c.toNat = cn at *
    go_wp2_with fail
    refine ⟨⟨D, p, k + 1, rfl, rfl, Hnext.out, Hown.out⟩, ?_⟩
    show s.length - ((k : Int) + 1).toNat < s.length - (k : Int).toNat
    omega
  ·obtain rfl : k = s.length := by have := hcut.2.1; omega
   have hfin := Lib.hid (Pth.cut_end hcut)
   have hk1 : ¬ (s.length : Int) < (xs.size : Int) := by have := Ls.out; omega
   have hext : xs.extract p xs.size = mk (s.drop p) := by
    rw [← Hxs.out]
    exact bytes_ext (by rw [Lib.extract_data, mk_data, mk_len, mk_data, ← List.length_drop, List.take_length])
   have hps : (p : Int) ≤ (xs.size : Int) := by omega
   have Hown := Lib.hid hown
   have hz := hown.2.size
   have hown1 := hown.1
   clear hcut hown
   generalize hx1 : mk (s.drop p) = x1 at *
   have hc1 : ∀ {w1 : World} j u, [Value.string x1][j]? = some u → (w1.alloc (.cells #[.string x1] 9)).cell? ((⟨w1.heap.size, 0, none⟩ : Addr).add j) = some u := by
    intro w1 j u hj
    match j, hj with
    | 0, hj => simp at hj; subst hj; simp [Addr.add]
   go_wp2_with (at_builtin; refine wpList_append_own _ rfl _ _ 80 rfl w.heap.size 9 i0 (.string ⟨#[]⟩) 1 16 Tryz.underlying80 hi hz0 hz1 hz2 rfl (by decide) _ _ _ rfl (hown1.alloc _) ⟨wr.heap.size, 0, none⟩ 1 1 [.string x1] rfl rfl hc1 ?c2 ?c3 ?c4 ?c5 ?_)
   case c2 => first | rfl | (intro u hu; simp at hu; subst hu; rfl)
   case c3 => have := hDl.out; unfold maxLen; omega
   case c4 => have := hDl.out; omega
   case c5 => first | omega | (simp; omega)
   intro v' w2 hown' hgrow' _
   have hnew := texts_more Hown.out (x := s.drop p) (v' := v') (by rw [hx1]; simpa using hown') hgrow'
   clear hown' hgrow' hown1
   go_wp2
   go_ret
   exact ⟨v', rfl, by rw [hfin.out]; exact hnew.cells, hnew.2⟩
end Go.Proofs.YtkcgmnhjofoeiaaGreat
