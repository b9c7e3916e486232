import Derived.Test.YtgpeobmaneponaaCom14
import Derived.Test.YtgpeobmaneponaaCom2
import Derived.Test.YtgpeobmaneponaaCom13
import Derived.Test.YtgpeobmaneponaaCom9
import Derived.Test.YtgpeobmaneponaaCom3
import Derived.Test.YtgpeobmaneponaaCom4
import Derived.Test.YtgpeobmaneponaaCom1
import Derived.Test.YtgpeobmaneponaaCom5
import Derived.BigQuiet
import Derived.Shelf.SlSortCmp.NoneTotal
import Derived.Great.Walk
import Derived.StringKeys
import Derived.Maps.OwnSet
import Derived.Lib.SlicesCompact
set_option maxRecDepth 100000
set_option linter.unusedVariables false
set_option linter.unusedSimpArgs false
set_option maxHeartbeats 12800000
namespace Go.Proofs.Ytgpeobmaneponaa
open Go.RowKit
def mayF (c1 c2 : Nat) : Value := .func (.func 73) #[] #[.pointer (some ⟨c1, 0, none⟩), .pointer (some ⟨c2, 0, none⟩)]
theorem pth_namer (w : World) :
  Calls Try.prog 56 #[] w fun e w' => e = .returned (mayF w.heap.size (w.heap.size + 1)) ∧ w' = (w.alloc (.cells #[.int .i64 6] 3)).alloc (.cells #[.int .i64 41] 3) := by
 unfold mayF
 go_enter Try.func56, Try.ntmps56
 go_wp2_with fail
 go_ret
 exact ⟨rfl, rfl⟩
theorem next_dec (d : List (List UInt8)) (t : List UInt8) : decide (Pth.Next d t) = (decide (Pth.Name t) && decide ((0 : Int) ≤ (6 - (d.length : Int)) - 1) && decide ((0 : Int) ≤ (41 - (Pth.lens d : Int)) - ((t.length : Int) + 1))) := by
 rw [Bool.eq_iff_iff]
 simp only [Bool.and_eq_true, decide_eq_true_eq, and_assoc]
 exact Iff.rfl
def cnt (d : List (List UInt8)) : Value := .int .i64 (6 - (d.length : Int))
def room (d : List (List UInt8)) : Value := .int .i64 (41 - (Pth.lens d : Int))
theorem pth_may {w : World} {c1 c2 : Nat} {d : List (List UInt8)} (t : List UInt8) (r1 : Row w c1 3 #[cnt d]) (r2 : Row w c2 3 #[room d]) (hne : c1 ≠ c2) (hd : Pth.Fit d) (ht : t.length ≤ 100000) :
  Calls Try.prog 73 #[.string (mk t), .pointer (some ⟨c1, 0, none⟩), .pointer (some ⟨c2, 0, none⟩)] w fun e w' =>
   e = .returned (.bool (decide (Pth.Next d t))) ∧ (Pth.Next d t → Row w' c1 3 #[cnt (d ++ [t])] ∧ Row w' c2 3 #[room (d ++ [t])]) ∧ Kept (fun i => i = c1 ∨ i = c2) w w' := by
 have HN := Lib.hid (fun W => pth_isname t W ht)
 have ht63 : ((mk t).size : Int) ≤ 100000 := by rw [mk_len]; omega
 have hls : ((mk t).size : Int) = (t.length : Int) := by rw [mk_len]
 have hnd := next_dec d t
 by_cases hn : Pth.Name t
 ·rw [decide_eq_true hn] at hnd HN
  have hd6 : (d.length : Int) ≤ 6 := by have := hd.2.1; omega
  have hd0 : (0 : Int) ≤ (d.length : Int) := by omega
  have hr41 : (Pth.lens d : Int) ≤ 41 := by have := hd.2.2; omega
  have hr0 : (0 : Int) ≤ (Pth.lens d : Int) := by omega
  have e1 : cnt (d ++ [t]) = .int .i64 (6 - (d.length : Int) - 1) := by unfold cnt; rw [List.length_append, List.length_singleton]; congr 1; omega
  have e2 : room (d ++ [t]) = .int .i64 (41 - (Pth.lens d : Int) - ((t.length : Int) + 1)) := by unfold room; rw [Pth.lens_append]; simp only [Pth.lens]; congr 1; omega
  rw [e1, e2]
  have r1' := r1
  have r2' := r2
  unfold cnt at r1'
  unfold room at r2'
  have q1 : w.cell? ⟨c1, 0, none⟩ = some (.int .i64 (6 - (d.length : Int))) := r1'.at 0
  have q2 : w.cell? ⟨c2, 0, none⟩ = some (.int .i64 (41 - (Pth.lens d : Int))) := r2'.at 0
  have l1 := r1.inHeap
  have l2 := r2.inHeap
  have R1 := Lib.hid r1'
  have R2 := Lib.hid r2'
  clear e1 e2 hd hn r1 r2 r1' r2'
  have hl0 : (0 : Int) ≤ (t.length : Int) := by omega
  have hl9 : (t.length : Int) ≤ 100000 := by omega
  rw [hls] at ht63
  have Hnd := Lib.hid hnd
  have Hne := Lib.hid hne
  clear hnd
  generalize hx : mk t = x at *
  generalize (d.length : Int) = n at *
  generalize (Pth.lens d : Int) = r at *
  generalize (t.length : Int) = tl at *
  generalize decide (Pth.Next d t) = R at *
  go_enter Try.func73, Try.ntmps73
  go_wp2_with fail
  refine (HN.out _).mono ?_
  rintro e w1 ⟨rfl, hb1⟩
  have s1 := (R1.out.below hb1 l1)
  have s2 := (R2.out.below hb1 l2)
  have p1 : w1.cell? ⟨c1, 0, none⟩ = some (.int .i64 (6 - n)) := s1.at 0
  have f1 := s1.free 0
  have t1 : Row (w1.setCell ⟨c1, 0, none⟩ (.int .i64 (6 - n - 1))) c1 3 #[.int .i64 (6 - n - 1)] := by simpa using s1.stored 0 (.int .i64 (6 - n - 1))
  have t2 := s2.storedElsewhere (p := ⟨c1, 0, none⟩) (by exact Hne.out) (.int .i64 (6 - n - 1))
  have p2 : (w1.setCell ⟨c1, 0, none⟩ (.int .i64 (6 - n - 1))).cell? ⟨c2, 0, none⟩ = some (.int .i64 (41 - r)) := t2.at 0
  have f2 := t2.free 0
  have K1 : Kept (fun i => i = c1 ∨ i = c2) w (w1.setCell ⟨c1, 0, none⟩ (.int .i64 (6 - n - 1))) := (Kept.ofBelow hb1 _).stored (Or.inl (Or.inl rfl)) _
  generalize hw2 : w1.setCell ⟨c1, 0, none⟩ (.int .i64 (6 - n - 1)) = w2 at *
  have u1 := t1.storedElsewhere (p := ⟨c2, 0, none⟩) (by exact fun e => Hne.out e.symm) (.int .i64 (41 - r - (tl + 1)))
  have u2 : Row (w2.setCell ⟨c2, 0, none⟩ (.int .i64 (41 - r - (tl + 1)))) c2 3 #[.int .i64 (41 - r - (tl + 1))] := by simpa using t2.stored 0 (.int .i64 (41 - r - (tl + 1)))
  have K2 : Kept (fun i => i = c1 ∨ i = c2) w (w2.setCell ⟨c2, 0, none⟩ (.int .i64 (41 - r - (tl + 1)))) := K1.stored (Or.inl (Or.inr rfl)) _
  have p3 : (w2.setCell ⟨c2, 0, none⟩ (.int .i64 (41 - r - (tl + 1)))).cell? ⟨c1, 0, none⟩ = some (.int .i64 (6 - n - 1)) := u1.at 0
  have p4 : (w2.setCell ⟨c2, 0, none⟩ (.int .i64 (41 - r - (tl + 1)))).cell? ⟨c2, 0, none⟩ = some (.int .i64 (41 - r - (tl + 1))) := u2.at 0
  generalize hw3 : w2.setCell ⟨c2, 0, none⟩ (.int .i64 (41 - r - (tl + 1))) = w3 at *
  have U1 := Lib.hid u1
  have U2 := Lib.hid u2
  have HK2 := Lib.hid K2
  clear u1 u2 K1 K2 t1 t2 s1 s2
  have gA : decide ((0 : Int) ≤ 6 - n - 1) = decide ((1 : Int) ≤ 6 - n) := by rw [decide_eq_decide]; omega
  have gB : decide ((0 : Int) ≤ 41 - r - (tl + 1)) = decide (tl + 1 ≤ 41 - r) := by rw [decide_eq_decide]; omega
  rw [gA, gB] at Hnd
  clear gA gB
  cases hA : decide ((1 : Int) ≤ 6 - n) <;> cases hB : decide (tl + 1 ≤ 41 - r)
  all_goals
   rw [hA, hB] at Hnd
   go_wp2_with fail
   go_ret
   exact ⟨by rw [Hnd.out]; rfl, fun _ => ⟨U1.out, U2.out⟩, HK2.out⟩
 ·rw [decide_eq_false hn] at hnd HN
  have hx : ¬ Pth.Next d t := fun h => hn h.1
  have Hx := Lib.hid hx
  have Hnd := Lib.hid hnd
  clear hd hn hnd hls hx r1 r2
  generalize mk t = x at *
  go_enter Try.func73, Try.ntmps73
  go_wp2_with (go_at_call 74; refine (HN.out _).mono ?_; rintro e w1 ⟨rfl, hb1⟩)
  go_ret
  exact ⟨by rw [Hnd.out]; rfl, fun h => absurd h Hx.out, Kept.ofBelow hb1 _⟩
end Go.Proofs.Ytgpeobmaneponaa
namespace Go.Proofs.Ytgpeobmaneponaa
open Go.RowKit
theorem extract_mk (l : List UInt8) (i j : Nat) : (mk l).extract i j = mk ((l.drop i).take (j - i)) := bytes_ext (by rw [Lib.extract_data, mk_data, mk_data])
theorem lite_cut_no (s : List UInt8) (w : World) (hs : s.length ≤ 100000) (h : ∀ c ∈ s, c.toNat ≠ 47) :
  Calls Try.prog 75 #[.string (mk s), .string ⟨#[47]⟩] w fun e w' => e = .returned (.tuple #[.string (mk s), .string ⟨#[]⟩, .bool false]) ∧ Below w.heap.size w w' := by
 have hi : Lib.indexByte s 47 = -1 := by
  rcases Pth.index_cases s with ⟨h1, -⟩ | ⟨a, b, rfl, -, -⟩
  ·exact h1
  ·exact absurd rfl (h 47 (by simp))
 have HI := fun W => Try.stringslite_Index_one (mk s) 47 W
 rw [mk_data, hi] at HI
 have HI0 := HI
 clear HI
 have HI := Lib.hid HI0
 clear HI0
 clear h hi
 generalize mk s = x at *
 go_enter Try.func75, Try.ntmps75
 go_wp2_with (go_at_call 84; refine (HI.out _).mono ?_; rintro e w1 ⟨rfl, rfl⟩)
 go_ret3
 exact ⟨rfl, Below.refl _ _⟩
theorem lite_cut_at (a b : List UInt8) (w : World) (hs : (a ++ 47 :: b).length ≤ 100000) (h : ∀ c ∈ a, c.toNat ≠ 47) :
  Calls Try.prog 75 #[.string (mk (a ++ 47 :: b)), .string ⟨#[47]⟩] w fun e w' => e = .returned (.tuple #[.string (mk a), .string (mk b), .bool true]) ∧ Below w.heap.size w w' := by
 have hi : Lib.indexByte (a ++ 47 :: b) 47 = (a.length : Int) := by
  rcases Pth.index_cases (a ++ 47 :: b) with ⟨-, h2⟩ | ⟨a2, b2, e, h2, h3⟩
  ·exact absurd rfl (h2 47 (by simp))
  ·have : a2 = a := by
    rcases List.append_eq_append_iff.1 e with ⟨c, e1, e2⟩ | ⟨c, e1, e2⟩
    ·cases c with
     | nil => simpa using e1
     | cons y c =>
      injection e2 with e2 e3
      exact absurd rfl (h2 47 (by rw [e1, e2]; simp))
    ·cases c with
     | nil => simpa using e1.symm
     | cons y c =>
      injection e2 with e2 e3
      exact absurd rfl (h 47 (by rw [e1, e2]; simp))
   rw [h3, this]
 have HI := fun W => Try.stringslite_Index_one (mk (a ++ 47 :: b)) 47 W
 rw [mk_data, hi] at HI
 have HI0 := HI
 clear HI
 have HI := Lib.hid HI0
 clear HI0
 have hl : (mk (a ++ 47 :: b)).size = a.length + 1 + b.length := by rw [mk_len, List.length_append, List.length_cons]; omega
 have x1 : (mk (a ++ 47 :: b)).extract 0 a.length = mk a := by rw [extract_mk]; congr 1; simp
 have x2 : (mk (a ++ 47 :: b)).extract (a.length + 1) (mk (a ++ 47 :: b)).size = mk b := by
  rw [hl, extract_mk]; congr 1
  rw [List.drop_append, List.drop_eq_nil_of_le (by omega)]
  simp
 rw [List.length_append, List.length_cons] at hs
 have g0 : (0 : Int) ≤ (a.length : Int) := by omega
 have g1 : (a.length : Int) ≤ 100000 := by omega
 have g2 : (a.length : Int) ≤ ((mk (a ++ 47 :: b)).size : Int) := by omega
 have g3 : (a.length : Int) + 1 ≤ ((mk (a ++ 47 :: b)).size : Int) := by omega
 have g4 : ((mk (a ++ 47 :: b)).size : Int) ≤ 100001 := by omega
 have X1 := Lib.hid x1
 have X2 := Lib.hid x2
 clear h hi x1 x2 hl hs
 generalize mk (a ++ 47 :: b) = x at *
 generalize mk a = y at *
 generalize mk b = z at *
 generalize a.length = n at *
 go_enter Try.func75, Try.ntmps75
 go_wp2_with (go_at_call 84; refine (HI.out _).mono ?_; rintro e w1 ⟨rfl, rfl⟩)
 go_quiet (fail)
 go_wp2_with fail
 go_ret3
 exact ⟨by show Ending.returned (.tuple #[.string (x.extract 0 n), .string (x.extract (n + 1) x.size), .bool true]) = _; rw [X1.out, X2.out], below_drews' _ _⟩
theorem cut_no (s : List UInt8) (w : World) (hs : s.length ≤ 100000) (h : ∀ c ∈ s, c.toNat ≠ 47) :
  Calls Try.prog 57 #[.string (mk s), .string ⟨#[47]⟩] w fun e w' => e = .returned (.tuple #[.string (mk s), .string ⟨#[]⟩, .bool false]) ∧ Below w.heap.size w w' := by
 have HI := Lib.hid (fun W => lite_cut_no s W hs h)
 clear h hs
 generalize mk s = x at *
 go_enter Try.func57, Try.ntmps57
 go_wp2_with (go_at_call 75; refine (HI.out _).mono ?_; rintro e w1 ⟨rfl, hb⟩)
 go_ret3
 exact ⟨rfl, hb⟩
theorem cut_at (a b : List UInt8) (w : World) (hs : (a ++ 47 :: b).length ≤ 100000) (h : ∀ c ∈ a, c.toNat ≠ 47) :
  Calls Try.prog 57 #[.string (mk (a ++ 47 :: b)), .string ⟨#[47]⟩] w fun e w' => e = .returned (.tuple #[.string (mk a), .string (mk b), .bool true]) ∧ Below w.heap.size w w' := by
 have HI := Lib.hid (fun W => lite_cut_at a b W hs h)
 clear h hs
 generalize mk (a ++ 47 :: b) = x at *
 generalize mk a = y at *
 generalize mk b = z at *
 go_enter Try.func57, Try.ntmps57
 go_wp2_with (go_at_call 75; refine (HI.out _).mono ?_; rintro e w1 ⟨rfl, hb⟩)
 go_ret3
 exact ⟨rfl, hb⟩
theorem hasp (s p : List UInt8) : Lib.hasPrefix s p = decide (p.length ≤ s.length ∧ s.take p.length = p) := by
 unfold Lib.hasPrefix
 rw [Bool.eq_iff_iff, List.isPrefixOf_iff_prefix, decide_eq_true_eq, List.prefix_iff_eq_take]
 constructor
 ·intro h; exact ⟨by have := congrArg List.length h; rw [List.length_take] at this; omega, h.symm⟩
 ·intro h; exact h.2.symm
theorem hasp_slash (s : List UInt8) : Lib.hasPrefix s [47] = decide (s[0]? = some 47) := by
 cases s with
 | nil => rfl
 | cons c s =>
  show (47 == c && true) = _
  rw [Bool.and_true, Bool.eq_iff_iff, beq_iff_eq, decide_eq_true_eq]
  simp [eq_comm]
theorem pth_covers (a b : List UInt8) (w : World) :
  Calls Try.prog 51 #[.string (mk a), .string (mk b)] w fun e w' => e = .returned (.bool (decide (Pth.Covers a b))) ∧ Below w.heap.size w w' := by
 have ia : (mk a).toList.isEmpty = decide (a = []) := by rw [Lib.toList_data, mk_data]; cases a <;> rfl
 have ea : ((mk a).toList == []) = decide (a = []) := by rw [Lib.toList_data, mk_data]; cases a <;> rfl
 have eb : ((mk a).toList == (mk b).toList) = decide (a = b) := by
  rw [Lib.toList_data, Lib.toList_data, mk_data, mk_data]
  by_cases h : a = b
  ·rw [h, decide_eq_true rfl]; exact beq_self_eq_true _
  ·rw [decide_eq_false h, beq_eq_false_iff_ne]; exact h
 by_cases h1 : a = []
 ·have hc : Hid (decide (Pth.Covers a b) = true) := Lib.hid (decide_eq_true (Or.inl h1))
  rw [decide_eq_true h1] at ia ea
  clear h1 eb
  generalize mk a = x at *
  generalize mk b = y at *
  go_enter Try.func51, Try.ntmps51
  go_wp2_with fail
  go_ret
  exact ⟨by rw [hc.out]; rfl, Below.refl _ _⟩
 ·rw [decide_eq_false h1] at ia ea
  by_cases h2 : a = b
  ·have hc : Hid (decide (Pth.Covers a b) = true) := Lib.hid (decide_eq_true (Or.inr (Or.inl h2)))
   rw [decide_eq_true h2] at eb
   clear h1 h2
   generalize mk a = x at *
   generalize mk b = y at *
   go_enter Try.func51, Try.ntmps51
   go_wp2_with fail
   go_ret
   exact ⟨by rw [hc.out]; rfl, Below.refl _ _⟩
  ·rw [decide_eq_false h2] at eb
   have hcov : Pth.Covers a b ↔ (a.length < b.length ∧ b.take a.length = a ∧ b[a.length]? = some 47) := by
    unfold Pth.Covers
    exact ⟨fun k => (k.resolve_left h1).resolve_left h2, fun k => Or.inr (Or.inr k)⟩
   have HP := fun W => Try.strings_CutPrefix (mk b) (mk a) W
   rw [mk_data, mk_data] at HP
   have hh := hasp b a
   unfold Lib.trimPrefix at HP
   by_cases h3 : a.length ≤ b.length ∧ b.take a.length = a
   ·rw [decide_eq_true h3] at hh
    have HP : Hid (∀ W, Calls Try.prog 59 #[.string (mk b), .string (mk a)] W fun e w' => e = .returned (.tuple #[.string (mk (b.drop a.length)), .bool true]) ∧ w' = W) := Lib.hid (fun W => by
     have := HP W
     rw [hh, if_pos rfl] at this
     exact this)
    have HH := fun W => Try.strings_HasPrefix (mk (b.drop a.length)) ⟨#[47]⟩ W
    rw [mk_data] at HH
    have h47 : Lib.hasPrefix (b.drop a.length) [47] = decide (Pth.Covers a b) := by
     rw [hasp_slash, List.getElem?_drop, Nat.add_zero, decide_eq_decide, hcov]
     constructor
     ·intro h
      have := (List.getElem?_eq_some_iff.1 h).1
      exact ⟨this, h3.2, h⟩
     ·intro h; exact h.2.2
    have HH : Hid (∀ W, Calls Try.prog 60 #[.string (mk (b.drop a.length)), .string ⟨#[47]⟩] W fun e w' => e = .returned (.bool (decide (Pth.Covers a b))) ∧ w' = W) := Lib.hid (fun W => by
     have := HH W
     rw [show (⟨#[47]⟩ : ByteArray).data.toList = [47] from rfl, h47] at this
     exact this)
    clear h47 hh h3 hcov h1 h2
    generalize decide (Pth.Covers a b) = R at *
    generalize mk (b.drop a.length) = z at *
    generalize mk a = x at *
    generalize mk b = y at *
    go_enter Try.func51, Try.ntmps51
    go_wp2_with (first
     | (go_at_call 59; with_reducible refine (HP.out _).mono ?_; rintro e w1 ⟨rfl, rfl⟩)
     | (go_at_call 60; with_reducible refine (HH.out _).mono ?_; rintro e w1 ⟨rfl, rfl⟩))
    go_ret
    exact ⟨rfl, Below.refl _ _⟩
   ·rw [decide_eq_false h3] at hh
    have HP : Hid (∀ W, Calls Try.prog 59 #[.string (mk b), .string (mk a)] W fun e w' => e = .returned (.tuple #[.string (mk b), .bool false]) ∧ w' = W) := Lib.hid (fun W => by
     have := HP W
     rw [hh, if_neg (by decide)] at this
     exact this)
    have hc : Hid (decide (Pth.Covers a b) = false) := Lib.hid (decide_eq_false (fun k => h3 (by have := hcov.1 k; exact ⟨by omega, this.2.1⟩)))
    clear hh h3 hcov h1 h2
    generalize mk a = x at *
    generalize mk b = y at *
    go_enter Try.func51, Try.ntmps51
    go_wp2_with (go_at_call 59; refine (HP.out _).mono ?_; rintro e w1 ⟨rfl, rfl⟩)
    go_ret
    exact ⟨by rw [hc.out]; rfl, Below.refl _ _⟩
end Go.Proofs.Ytgpeobmaneponaa
namespace Go.Proofs.Ytgpeobmaneponaa
open Go.RowKit
theorem Pth.own_at {w w' : World} {base t size n : Nat} {v : Value} {xs : List Value} (h : w.ownsRow base t size v n xs) (k : ∀ i, v.ownBlock = some i → w'.heap[i]? = w.heap[i]?) : w'.ownsRow base t size v n xs := by
 refine ⟨h.1, ?_⟩
 rcases h.2 with hn | ⟨g, cap, cur, rfl, hb, hgg, rest⟩
 ·exact .inl hn
 ·exact .inr ⟨g, cap, cur, rfl, hb, (k g rfl).trans hgg, rest⟩
structure NmAt (w : World) (d e : List (List UInt8)) (v : Value) (wr : World) : Prop where
 own : wr.ownsRow (w.heap.size + 2) 9 1 v d.length (texts d)
 r1 : Row wr w.heap.size 3 #[cnt e]
 r2 : Row wr (w.heap.size + 1) 3 #[room e]
 bel : Below w.heap.size w wr
 size : w.heap.size + 2 ≤ wr.heap.size
theorem NmAt.start (w : World) : NmAt w [] [] (.slice none 0 0) ((w.alloc (.cells #[.int .i64 6] 3)).alloc (.cells #[.int .i64 41] 3)) := by
 refine ⟨World.ownsRow_nil _ _ _ _, (Row.made w _ _).behindNew _, ?_, ((Below.refl _ w).alloc (Nat.le_refl _) _).alloc (by simp) _, by simp⟩
 have := Row.made (w.alloc (.cells #[.int .i64 6] 3)) 3 #[.int .i64 41]
 rw [show (w.alloc (.cells #[.int .i64 6] 3)).heap.size = w.heap.size + 1 from by simp] at this
 exact this
theorem NmAt.below {w w1 w2 : World} {d e : List (List UInt8)} {v : Value} (h : NmAt w d e v w1) (k : Below w1.heap.size w1 w2) : NmAt w d e v w2 :=
 ⟨Pth.own_at h.own (fun i hi => k.block i (h.own.lt _ hi).2), h.r1.below k h.r1.inHeap, h.r2.below k h.r2.inHeap, h.bel.trans (k.mono h.bel.size), Nat.le_trans h.size k.size⟩
theorem NmAt.told {w w1 w2 : World} {d e e' : List (List UInt8)} {v : Value} (h : NmAt w d e v w1) (r1 : Row w2 w.heap.size 3 #[cnt e']) (r2 : Row w2 (w.heap.size + 1) 3 #[room e']) (k : Kept (fun i => i = w.heap.size ∨ i = w.heap.size + 1) w1 w2) : NmAt w d e' v w2 :=
 ⟨Pth.own_at h.own (fun i hi => k.block i (h.own.lt _ hi).2 (by have := (h.own.lt _ hi).1; omega)), r1, r2, h.bel.trans (k.below h.bel.size (fun i hi => by omega)), Nat.le_trans h.size k.size⟩
theorem nm_more {w wr w2 : World} {d e : List (List UInt8)} {v v' : Value} {o : Obj} {x : List UInt8} (h : NmAt w d e v wr) (hown : w2.ownsRow (w.heap.size + 2) 9 1 v' (d.length + 1) (texts d ++ [.string (mk x)])) (hg : (wr.alloc o).grownBy w2 v.ownBlock) : NmAt w (d ++ [x]) e v' w2 := by
 have hne : ∀ k, v.ownBlock = some k → w.heap.size + 2 ≤ k := fun k hk => (h.own.lt k hk).1
 refine ⟨?_, ?_, ?_, ?_, ?_⟩
 ·rw [List.length_append, List.length_singleton]
  simpa [texts] using hown
 ·exact (h.r1.behindNew o).grown hg (fun e => by have := hne _ e; omega)
 ·exact (h.r2.behindNew o).grown hg (fun e => by have := hne _ e; omega)
 ·exact (h.bel.alloc h.bel.size o).grown hg (by have := h.bel.size; simp; omega) (fun k hk => by have := hne k hk; omega)
 ·have := hg.size; have := h.size; simp at *; omega
theorem NmAt.cells {w w' : World} {d e : List (List UInt8)} {v : Value} (h : NmAt w d e v w') : Cells w' (NewIn w w') v (texts d) := Cells.ofOwn h.own (fun _ _ h1 h2 => ⟨by omega, h2⟩)
def moreIn (o m : Value) : Nat := match m, o with | .bool true, .string x => x.size + 1 | _, _ => 0
theorem cut_parts (r : List UInt8) (hr : r.length ≤ 100000) : ∃ (t r' : List UInt8) (m : Bool), (∀ W, Calls Try.prog 57 #[.string (mk r), .string ⟨#[47]⟩] W fun e w' => e = .returned (.tuple #[.string (mk t), .string (mk r'), .bool m]) ∧ Below W.heap.size W w') ∧
  Pth.splitA [] r = t :: (if m then Pth.splitA [] r' else []) ∧ t.length ≤ r.length ∧ r'.length ≤ r.length ∧ moreIn (.string (mk r')) (.bool m) < moreIn (.string (mk r)) (.bool true) := by
 rcases Pth.index_cases r with ⟨-, h⟩ | ⟨a, b, rfl, h, -⟩
 ·refine ⟨r, [], false, fun W => cut_no r W hr h, ?_, Nat.le_refl _, Nat.zero_le _, ?_⟩
  ·rw [Pth.splitA_no h]; simp
  ·show 0 < (mk r).size + 1; omega
 ·refine ⟨a, b, true, fun W => cut_at a b W hr h, ?_, by simp, by simp; omega, ?_⟩
  ·rw [Pth.splitA_at h]; simp
  ·show (mk b).size + 1 < (mk (a ++ 47 :: b)).size + 1
   rw [mk_len, mk_len]; simp; omega
theorem pth_names (s : List UInt8) (w : World) (hs : s.length ≤ 100000) :
    Calls Try.prog 47 #[.string (mk s)] w fun e w' => ∃ v, e = .returned (.tuple #[v, .int .i64 (if Pth.Right s then 0 else 13)]) ∧ Cells w' (NewIn w w') v (texts (if Pth.Right s then Pth.split s else [])) ∧ Below w.heap.size w w' := by
  obtain ⟨i0, hi, hz0, hz1, hz2⟩ := info_parts strInfo
  have HN := Lib.hid (pth_namer w)
  unfold mayF at HN
  generalize hE : (if Pth.Right s then (0 : Int) else 13) = E
  generalize hL : (if Pth.Right s then Pth.split s else []) = L
  have HE := Lib.hid hE
  have HL := Lib.hid hL
  clear hE hL
  go_enter Try.func47, Try.ntmps47
  go_wp2_with (go_at_call 56; refine HN.out.mono ?_; rintro e w1 ⟨rfl, e1⟩
               have h0 := Lib.hid (e1 ▸ NmAt.start w)
               clear e1)
  go_loopw [0, 5, 6] (fun o v b wr => ∃ (d : List (List UInt8)) (u : Value) (x : List UInt8) (m : Bool), o = .string (mk x) ∧ b = .bool m ∧ u = v ∧ Pth.split s = d ++ (if m then Pth.splitA [] x else []) ∧ Pth.Fit d ∧ NmAt w d d u wr ∧ x.length ≤ 100000) (fun o _ b _ => moreIn o b)
  case atStart => exact ⟨[], _, s, true, rfl, rfl, rfl, by simp [Pth.split], Pth.fit_nil, h0.out, hs⟩
  case round =>
    obtain ⟨d, v, x, m, rfl, rfl, rfl, hsp, hfit, hat, hx⟩ := hrel
    cases m
    · have hsd : Pth.split s = d := by rw [hsp]; simp
      have hR : Pth.Right s := (Pth.right_fit s).2 (hsd ▸ hfit)
      have E0 : Hid (E = 0) := Lib.hid (by rw [← HE.out, if_pos hR])
      have L0 : Hid (L = d) := Lib.hid (by rw [← HL.out, if_pos hR, hsd])
      have Hat := Lib.hid hat
      clear hat hsp hfit hR hsd
      generalize mk x = X at *
      go_wp2_with fail
      go_ret2
      exact ⟨v, by rw [E0.out]; rfl, by rw [L0.out]; exact Hat.out.cells, Hat.out.bel⟩
    · obtain ⟨t, r', m', hcut, hsa, htl, hrl, hmeas⟩ := cut_parts x hx
      have HC := Lib.hid hcut
      have hd6 : d.length ≤ 6 := hfit.2.1
      have HM := Lib.hid (fun (W : World) (h : NmAt w d d v W) => pth_may (d := d) t h.r1 h.r2 (by omega) hfit (by omega))
      have Hat := Lib.hid hat
      have Hmeas := Lib.hid hmeas
      clear hcut hat hmeas
      by_cases hn : Pth.Next d t
      · have hsp2 : Hid (Pth.split s = (d ++ [t]) ++ (if m' then Pth.splitA [] r' else [])) := Lib.hid (by rw [hsp, if_pos rfl, hsa]; simp)
        have hfit2 := Lib.hid (Pth.fit_next hfit hn)
        have Hr := Lib.hid (Nat.le_trans hrl hx)
        have Hn := Lib.hid hn
        rw [decide_eq_true hn] at HM
        have hlen : Hid ((texts d).length = d.length) := Lib.hid (texts_len d)
        clear hsp hfit hn htl hrl hsa hx
        generalize hx1 : mk t = x1 at *
        generalize mk x = X at *
        generalize hx2 : mk r' = x2 at *
        go_wp2_with fail
        refine (HC.out _).mono ?_
        rintro e w2 ⟨rfl, hb2⟩
        have h2 := Lib.hid (Hat.out.below hb2)
        clear hb2
        go_wp2_with fail
        refine (HM.out _ h2.out).mono ?_
        rintro e w3 ⟨rfl, hr3, hk3⟩
        have h3 := Lib.hid (h2.out.told (hr3 Hn.out).1 (hr3 Hn.out).2 hk3)
        have hown3 := h3.out.own
        have hz3 := h3.out.size
        clear hr3 hk3
        have hc1 : ∀ {w1 : World} j u, [Value.string x1][j]? = some u → (w1.alloc (.cells #[.string x1] 9)).cell? ((⟨w1.heap.size, 0, none⟩ : Addr).add j) = some u := by
          intro w1 j u hj
          match j, hj with
          | 0, hj => simp at hj; subst hj; simp [Addr.add]
        go_wp2_with (at_builtin; refine wpList_append_own _ rfl _ _ 74 rfl (w.heap.size + 2) 9 i0 (.string ⟨#[]⟩) 1 16 Try.underlying74 hi hz0 hz1 hz2 rfl (by decide) _ _ _ rfl (hown3.alloc _) ⟨w3.heap.size, 0, none⟩ 1 1 [.string x1] rfl rfl hc1 ?c2 ?c3 ?c4 ?c5 ?_)
        case c2 => first | rfl | (intro u hu; simp at hu; subst hu; rfl)
        case c3 => unfold maxLen; omega
        case c4 => omega
        case c5 => first | omega | (simp; omega)
        intro v' w4 hown' hgrow' _
        have hnew := nm_more h3.out (x := t) (v' := v') (by rw [hx1]; simpa using hown') hgrow'
        clear hown' hgrow' hown3
        go_wp2
        go_roundw
        case rel => exact ⟨d ++ [t], _, r', m', by rw [hx2], rfl, rfl, hsp2.out, hfit2.out, hnew, Hr.out⟩
        case measure => exact Hmeas.out
      · have hR : ¬ Pth.Right s := fun h => by
          have := (Pth.right_fit s).1 h
          rw [hsp, if_pos rfl, hsa] at this
          exact Pth.fit_not hn this
        have E0 : Hid (E = 13) := Lib.hid (by rw [← HE.out, if_neg hR])
        have L0 : Hid (L = []) := Lib.hid (by rw [← HL.out, if_neg hR])
        rw [decide_eq_false hn] at HM
        clear hsp hfit hn htl hrl hsa hx hR Hmeas hd6
        generalize mk t = x1 at *
        generalize mk x = X at *
        generalize mk r' = x2 at *
        go_wp2_with fail
        refine (HC.out _).mono ?_
        rintro e w2 ⟨rfl, hb2⟩
        have h2 := Lib.hid (Hat.out.below hb2)
        clear hb2
        go_wp2_with fail
        refine (HM.out _ h2.out).mono ?_
        rintro e w3 ⟨rfl, -, hk3⟩
        have hb3 : Hid (Below w.heap.size w w3) := Lib.hid (h2.out.bel.trans (hk3.below h2.out.bel.size (fun i hi => by omega)))
        clear hk3
        go_wp2_with fail
        go_ret2
        exact ⟨.slice none 0 0, by rw [E0.out]; rfl, by rw [L0.out]; exact Cells.none _ _, hb3.out⟩
theorem pth_check (s : List UInt8) (w : World) (hs : s.length ≤ 100000) :
  Calls Try.prog 34 #[.string (mk s)] w fun e w' => e = .returned (.int .i64 (if Pth.Right s then 0 else 13)) ∧ Below w.heap.size w w' := by
 have HN := Lib.hid (pth_names s w hs)
 generalize (if Pth.Right s then (0 : Int) else 13) = R at *
 generalize mk s = X at *
 go_enter Try.func34, Try.ntmps34
 go_wp2_with (go_at_call 47; refine HN.out.mono ?_; rintro e w1 ⟨v, rfl, -, hb⟩)
 go_ret
 exact ⟨rfl, hb⟩
end Go.Proofs.Ytgpeobmaneponaa
namespace Go.Proofs.Ytgpeobmaneponaa
open Go.RowKit
theorem path_ok : PathOk where
 check := pth_check
 names := pth_names
 covers := fun a b w _ _ => pth_covers a b w
end Go.Proofs.Ytgpeobmaneponaa
namespace Go.Proofs.Ytgpeobmaneponaa
open Go.RowKit Go.Sort
instance : Inhabited Ver.V := ⟨⟨0, 0⟩⟩
end Go.Proofs.Ytgpeobmaneponaa
namespace Go.Proofs.Ytgpeobmaneponaa
open Go.RowKit Go.Sort
theorem ver_counts (w : World) (n : Int) (h : n ≤ 9223372036854775807) : Calls Try.prog 46 #[.int .i64 n] w fun e w' => e = .returned (.bool (decide ((1 : Int) ≤ n))) ∧ w = w' := by
 by_cases h1 : (1 : Int) ≤ n
 ·have E : Hid (decide ((1 : Int) ≤ n) = true) := Lib.hid (decide_eq_true h1)
  go_enter Try.func46, Try.ntmps46
  go_wp2_with fail
  go_ret
  exact ⟨by rw [E.out]; first | rfl | (simp; omega), rfl⟩
 ·have E : Hid (decide ((1 : Int) ≤ n) = false) := Lib.hid (decide_eq_false h1)
  go_enter Try.func46, Try.ntmps46
  go_wp2_with fail
  go_ret
  exact ⟨by rw [E.out]; first | rfl | (simp; omega), rfl⟩
theorem ver_check (w : World) (v : Ver.V) (hb : Ver.Bd v) : Calls Try.prog 32 #[verA v] w fun e w' => e = .returned (.int .i64 (Ver.checkV v)) ∧ Laid w w' := by
 have L := Lib.hid (laid_one w)
 obtain ⟨x, y⟩ := v
 have CO := Lib.hid (fun W => ver_counts W y (by have := hb.2; unfold Ver.I64 at this; exact this.2))
 have E0 : Hid (Ver.checkV ⟨x, y⟩ = if (1 : Int) ≤ x ∧ x ≤ 64 ∧ (1 : Int) ≤ y then 0 else 2) := Lib.hid rfl
 clear hb
 by_cases h1 : x < 1
 ·have E : Hid (Ver.checkV ⟨x, y⟩ = 2) := Lib.hid (by rw [E0.out, if_neg (by omega)])
  go_enter Try.func32, Try.ntmps32
  go_wp2_with fail
  go_ret
  exact ⟨by rw [E.out]; rfl, L.out _⟩
 ·by_cases h2 : 64 < x
  ·have E : Hid (Ver.checkV ⟨x, y⟩ = 2) := Lib.hid (by rw [E0.out, if_neg (by omega)])
   go_enter Try.func32, Try.ntmps32
   go_wp2_with fail
   go_ret
   exact ⟨by rw [E.out]; rfl, L.out _⟩
  ·by_cases h3 : (1 : Int) ≤ y
   ·have E : Hid (Ver.checkV ⟨x, y⟩ = 0) := Lib.hid (by rw [E0.out, if_pos (by omega)])
    have CO : Hid (∀ W, Calls Try.prog 46 #[.int .i64 y] W fun e w' => e = .returned (.bool true) ∧ W = w') := Lib.hid (fun W => by have := CO.out W; rwa [decide_eq_true h3] at this)
    go_enter Try.func32, Try.ntmps32
    go_wp2_with (go_at_call 46; refine (CO.out _).mono ?_; rintro e w' ⟨rfl, rfl⟩)
    go_ret
    exact ⟨by rw [E.out]; rfl, L.out _⟩
   ·have E : Hid (Ver.checkV ⟨x, y⟩ = 2) := Lib.hid (by rw [E0.out, if_neg (by omega)])
    have CO : Hid (∀ W, Calls Try.prog 46 #[.int .i64 y] W fun e w' => e = .returned (.bool false) ∧ W = w') := Lib.hid (fun W => by have := CO.out W; rwa [decide_eq_false h3] at this)
    go_enter Try.func32, Try.ntmps32
    go_wp2_with (go_at_call 46; refine (CO.out _).mono ?_; rintro e w' ⟨rfl, rfl⟩)
    go_ret
    exact ⟨by rw [E.out]; rfl, L.out _⟩
end Go.Proofs.Ytgpeobmaneponaa
namespace Go.Proofs.Ytgpeobmaneponaa
open Go.RowKit Go.Sort
theorem ver_stamp (w : World) (s : Ver.S) (hb : Ver.BdS s) : Calls Try.prog 33 #[stpA s] w fun e w' => e = .returned (.int .i64 (Ver.checkS s)) ∧ Laid w w' := by
 have L := Lib.hid (laid_one w)
 obtain ⟨t, x, y⟩ := s
 have CH := Lib.hid (fun W => ver_check W ⟨x, y⟩ hb.1)
 have CO := Lib.hid (fun W => ver_counts W t (by have := hb.2; unfold Ver.I64 at this; exact this.2))
 clear hb
 by_cases h3 : (1 : Int) ≤ t
 ·have E : Hid (Ver.checkS ⟨t, x, y⟩ = Ver.checkV ⟨x, y⟩) := Lib.hid (by unfold Ver.checkS Ver.checkV Ver.RightS; simp [h3])
  have CO : Hid (∀ W, Calls Try.prog 46 #[.int .i64 t] W fun e w' => e = .returned (.bool true) ∧ W = w') := Lib.hid (fun W => by have := CO.out W; rwa [decide_eq_true h3] at this)
  generalize Ver.checkV ⟨x, y⟩ = r at *
  go_enter Try.func33, Try.ntmps33
  go_wp2_with (first | (go_at_call 46; refine (CO.out _).mono ?_; rintro e w' ⟨rfl, rfl⟩) | (go_at_call 32; refine (CH.out _).mono ?_; rintro e w1 ⟨rfl, hl⟩; have HL := Lib.hid ((L.out _).trans hl); clear hl))
  go_ret
  exact ⟨by rw [E.out]; rfl, HL.out⟩
 ·have E : Hid (Ver.checkS ⟨t, x, y⟩ = 2) := Lib.hid (by unfold Ver.checkS Ver.RightS; simp [h3])
  have CO : Hid (∀ W, Calls Try.prog 46 #[.int .i64 t] W fun e w' => e = .returned (.bool false) ∧ W = w') := Lib.hid (fun W => by have := CO.out W; rwa [decide_eq_false h3] at this)
  go_enter Try.func33, Try.ntmps33
  go_wp2_with (go_at_call 46; refine (CO.out _).mono ?_; rintro e w' ⟨rfl, rfl⟩)
  go_ret
  exact ⟨by rw [E.out]; rfl, L.out _⟩
theorem ver_before (w : World) (a b : Ver.V) : Calls Try.prog 42 #[verA a, verA b] w fun e w' => e = .returned (.bool (decide (Ver.Before a b))) ∧ Laid w w' := by
 have L := Lib.hid (laid_two w)
 obtain ⟨x, y⟩ := a
 obtain ⟨x', y'⟩ := b
 have E := Lib.hid (show decide (Ver.Before ⟨x, y⟩ ⟨x', y'⟩) = _ from before_alt x y x' y')
 by_cases h1 : x < x'
 ·go_enter Try.func42, Try.ntmps42
  go_wp2_with fail
  go_ret
  exact ⟨by rw [E.out]; first | (simp [h1]; done) | (simp [h1]; omega), L.out _ _⟩
 ·by_cases h2 : x = x'
  ·subst h2
   go_enter Try.func42, Try.ntmps42
   go_wp2_with fail
   go_ret
   exact ⟨by rw [E.out]; first | (simp [h1]; done) | (simp [h1]; omega), L.out _ _⟩
  ·go_enter Try.func42, Try.ntmps42
   go_wp2_with fail
   go_ret
   exact ⟨by rw [E.out]; first | (simp [h1, h2]; done) | (simp [h1, h2]; omega), L.out _ _⟩
def Ver.order (a b : Ver.V) : Int := if a = b then 0 else if Ver.Before a b then -1 else 1
end Go.Proofs.Ytgpeobmaneponaa
namespace Go.Proofs.Ytgpeobmaneponaa
open Go.RowKit Go.Shelf Go.Lib Go.Sort
end Go.Proofs.Ytgpeobmaneponaa
namespace Go.Proofs.Ytgpeobmaneponaa
open Go.RowKit Go.Sort
end Go.Proofs.Ytgpeobmaneponaa
namespace Go.Proofs.Ytgpeobmaneponaa
open Go.RowKit Go.Sort
theorem vers_ok : VersOk where
 check := fun v h => ver_check _ v h
 stamp := fun s h => ver_stamp _ s h
 before := fun a b => ver_before _ a b
end Go.Proofs.Ytgpeobmaneponaa
namespace Go.Proofs.Ytgpeobmaneponaa
open Go.RowKit
namespace Tm
def raw (v : Value) : Option (DataW Value × List MemPlace) := some (.held v, [])
abbrev Pr := List UInt8 × Value
abbrev Fn := List UInt8 → Option Value
def ent (p : Pr) : Lit × DataW Value := (.string p.1, .held p.2)
def datum (l : List Pr) : DataW Value := .map (l.map ent)
theorem same (a b : List UInt8) : Lit.sameKey (.string a) (.string b) = decide (a = b) := by
 show (a == b) = _
 rw [Bool.eq_iff_iff]; simp
def Tells (l : List Pr) (m : Fn) : Prop := ∀ k, (l.find? fun p => decide (p.1 = k)) = (m k).map fun v => (k, v)
def insP (x : Pr) : List Pr → List Pr
 | [] => [x]
 | y :: r => if bytesBefore x.1 y.1 = true then x :: y :: r else y :: insP x r
theorem insP_find (x : Pr) (q : List UInt8) : ∀ l : List Pr, (∀ p ∈ l, p.1 ≠ x.1) → (insP x l).find? (fun p => decide (p.1 = q)) = if q = x.1 then some x else l.find? fun p => decide (p.1 = q)
 | [], _ => by
  unfold insP
  rw [List.find?_cons]
  by_cases h : q = x.1
  ·rw [if_pos h]; simp [h]
  ·rw [if_neg h]
   have : decide (x.1 = q) = false := decide_eq_false (fun e => h e.symm)
   rw [this]
 | y :: l, hl => by
  have hy := hl y (by simp)
  have ih := insP_find x q l (fun p hp => hl p (List.mem_cons_of_mem _ hp))
  unfold insP
  split
  ·rw [List.find?_cons]
   by_cases h : q = x.1
   ·rw [if_pos h]; simp [h]
   ·rw [if_neg h]
    have : decide (x.1 = q) = false := decide_eq_false (fun e => h e.symm)
    rw [this]
  ·rw [List.find?_cons, ih]
   by_cases h : q = x.1
   ·rw [if_pos h, if_pos h]
    have : decide (y.1 = q) = false := decide_eq_false (fun e => hy (by rw [e, h]))
    rw [this]
   ·rw [if_neg h, if_neg h, List.find?_cons]
def set (m : Fn) (k : List UInt8) (v : Value) : Fn := fun q => if q = k then some v else m q
theorem find_filter (l : List Pr) (k q : List UInt8) (h : q ≠ k) : (l.filter fun p => decide (p.1 ≠ k)).find? (fun p => decide (p.1 = q)) = l.find? fun p => decide (p.1 = q) := by
 rw [List.find?_filter]
 congr 1
 funext p
 by_cases e : p.1 = q
 ·simp [e, h]
 ·simp [e]
theorem Tells.put {l : List Pr} {m : Fn} (h : Tells l m) (k : List UInt8) (v : Value) : Tells (insP (k, v) (l.filter fun p => decide (p.1 ≠ k))) (set m k v) := by
 intro q
 rw [insP_find _ _ _ (fun p hp => by simpa using (List.mem_filter.1 hp).2)]
 unfold set
 by_cases e : q = k
 ·subst e
  simp
 ·rw [if_neg e, if_neg e, find_filter _ _ _ e]
  exact h q
theorem key {k : ByteArray} (h : k.size ≤ 9223372036854775807) : keyOf Try.prog 9 (.string k) = some (.string k.data.toList) := Go.WideMaps.keyOf_string_mk Try.underlying9 h
theorem zero (w : World) : (zeroValue 82).run Try.prog w = .ok (.slice none 0 0) w := by kernel_rfl
end Tm
def TmAt (w : World) (bm : Nat) (m : Tm.Fn) (n : Nat) : Prop := ∃ l, Tm.Tells l m ∧ l.length ≤ n ∧ w.ownsMap Try.prog 9 Tm.raw bm l.length (Tm.datum l)
section
variable {w w' : World} {bm n : Nat} {m : Tm.Fn} {F G : Nat → Prop}
theorem TmAt.lt (h : TmAt w bm m n) : bm < w.heap.size := by
 obtain ⟨l, -, -, h⟩ := h
 exact World.ownsMap.lt h
theorem TmAt.kept (h : TmAt w bm m n) (k : Kept G w w') (hd : ¬ G bm) : TmAt w' bm m n := by
 have hl := h.lt
 obtain ⟨l, h1, h2, es, clock, hb, r⟩ := h
 exact ⟨l, h1, h2, es, clock, (k.block bm hl hd).trans hb, r⟩
theorem TmAt.below (h : TmAt w bm m n) (k : Below w.heap.size w w') : TmAt w' bm m n := h.kept (Kept.ofBelow k (fun _ => False)) (fun h => h)
theorem TmAt.made (w : World) : TmAt (w.alloc (.map #[] 0)) w.heap.size (fun _ => none) 0 := ⟨[], fun _ => rfl, Nat.le_refl _, World.ownsMap_made w _ _ _⟩
end
end Go.Proofs.Ytgpeobmaneponaa
namespace Go.Proofs.Ytgpeobmaneponaa
namespace Pth
end Pth
namespace Flt
theorem compact_up {l : List Tx} (h : l.Pairwise (· ≤ ·)) : Up (Lib.compact l) := by
 have hle : ∀ i j, i ≤ j → j < l.length → l.toArray[i]! ≤ l.toArray[j]! := by
  intro i j hij hj
  rw [getElem!_pos l.toArray i (by simpa using Nat.lt_of_le_of_lt hij hj), getElem!_pos l.toArray j (by simpa using hj)]
  rcases Nat.eq_or_lt_of_le hij with e | e
  ·subst e; exact List.le_refl _
  ·exact List.pairwise_iff_getElem.1 h i j _ _ e
 unfold Up Lib.compact Lib.compactUpTo
 rw [List.pairwise_map]
 refine ((List.pairwise_lt_range).filter _).imp_of_mem ?_
 intro i j hi hj hij
 obtain ⟨hj1, hj2⟩ := List.mem_filter.1 hj
 have hjl := List.mem_range.1 hj1
 have hne : l.toArray[j]! ≠ l.toArray[j - 1]! := by
  rcases of_decide_eq_true hj2 with k | k
  ·omega
  ·exact k
 have h1 := hle i (j - 1) (by omega) (by omega)
 have h2 := hle (j - 1) j (by omega) hjl
 have h3 : l.toArray[j - 1]! < l.toArray[j]! := by
  rcases List.le_iff_lt_or_eq.1 h2 with k | k
  ·exact k
  ·exact absurd k.symm hne
 rcases List.le_iff_lt_or_eq.1 h1 with k | k
 ·exact List.lt_trans k h3
 ·rw [k]; exact h3
end Flt
end Go.Proofs.Ytgpeobmaneponaa
namespace Go.Proofs.Ytgpeobmaneponaa
open Go.RowKit
def Tm.val (m : Tm.Fn) (q : List UInt8) : Value := match m q with | some v => v | none => .slice none 0 0
end Go.Proofs.Ytgpeobmaneponaa
namespace Go.Proofs.Ytgpeobmaneponaa
open Go.RowKit
theorem flt_all (w : World) : Calls Try.prog 27 #[] w fun e w' => ∃ v', e = .returned v' ∧ Cls w' (NewIn w w') v' Flt.whole ∧ Below w.heap.size w w' := by
 go_enter Try.func27, Try.ntmps27
 go_wp2_with fail
 go_ret
 have hb : Below w.heap.size w (w.alloc (.cells #[.string ⟨#[]⟩, .int .i64 0, .int .i64 200] 65)) := (Below.refl _ _).alloc (Nat.le_refl _) _
 exact ⟨_, rfl, (cl_made w 65 [] 0 200).mono (fun i hi => ⟨by omega, by simp; omega⟩), hb⟩
end Go.Proofs.Ytgpeobmaneponaa
