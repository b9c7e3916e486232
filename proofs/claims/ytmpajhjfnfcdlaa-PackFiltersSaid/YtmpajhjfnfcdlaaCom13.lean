import Derived.Test.YtmpajhjfnfcdlaaCom12
import Derived.Test.YtmpajhjfnfcdlaaCom6
import Derived.Test.YtmpajhjfnfcdlaaCom8
import Derived.Test.YtmpajhjfnfcdlaaCom4
import Derived.Test.YtmpajhjfnfcdlaaCom5
import Derived.BigQuiet
import Derived.Shelf.SlicesQ.Equal
import Derived.Shelf.SlicesQ.IndexFunc
import Derived.Laws.StructEq
import Derived.Sort.Walk0
import Derived.Shelf.GgSortFunc.InsertionK
import Derived.Shelf.SlSortCmp.NoneTotal
import Derived.Shelf.Slices.In.SortNone
import Derived.Sort.OwnSorted
import Derived.Great.Walk
import Derived.WalkMore
import Derived.Shelf.Spec.SlicesGrow
set_option maxRecDepth 100000
set_option linter.all false
set_option maxHeartbeats 12800000
namespace Go.Proofs.Ytmpajhjfnfcdlaa
open Go.RowKit
theorem extract_mk (l : List UInt8) (i j : Nat) : (mk l).extract i j = mk ((l.drop i).take (j - i)) := bytes_ext (by rw [Lib.extract_data, mk_data, mk_data])
theorem lite_cut_no (s : List UInt8) (w : World) (hs : s.length ≤ 100000) (h : ∀ c ∈ s, c.toNat ≠ 47) :
  Calls Try.prog 135 #[.string (mk s), .string ⟨#[47]⟩] w fun e w' => e = .returned (.tuple #[.string (mk s), .string ⟨#[]⟩, .bool false]) ∧ Below w.heap.size w w' := by
 have hi : Lib.indexByte s 47 = -1 := by
  rcases Pth.index_cases s with ⟨h1, -⟩ | ⟨a, b, rfl, -, -⟩
  ·exact h1
  ·exact absurd rfl (h 47 (by simp))
 have HI := fun W => Try.stringslite_Index_one (mk s) 47 W
 rw [mk_data, hi] at HI
 have HI0 := HI
 clear HI
 have HI := Lib.hid HI0
 clear HI0
 clear h hi
 generalize mk s = x at *
 go_enter Try.func135, Try.ntmps135
 go_wp2_with (go_at_call 139; refine (HI.out _).mono ?_; rintro e w1 ⟨rfl, rfl⟩)
 go_ret3
 exact ⟨rfl, Below.refl _ _⟩
theorem lite_cut_at (a b : List UInt8) (w : World) (hs : (a ++ 47 :: b).length ≤ 100000) (h : ∀ c ∈ a, c.toNat ≠ 47) :
  Calls Try.prog 135 #[.string (mk (a ++ 47 :: b)), .string ⟨#[47]⟩] w fun e w' => e = .returned (.tuple #[.string (mk a), .string (mk b), .bool true]) ∧ Below w.heap.size w w' := by
 have hi : Lib.indexByte (a ++ 47 :: b) 47 = (a.length : Int) := by
  rcases Pth.index_cases (a ++ 47 :: b) with ⟨-, h2⟩ | ⟨a2, b2, e, h2, h3⟩
  ·exact absurd rfl (h2 47 (by simp))
  ·have : a2 = a := by
    rcases List.append_eq_append_iff.1 e with ⟨c, e1, e2⟩ | ⟨c, e1, e2⟩
    ·cases c with
     | nil => simpa using e1
     | cons y c =>
      injection e2 with e2 e3
      exact absurd rfl (h2 47 (by rw [e1, e2]; simp))
    ·cases c with
     | nil => simpa using e1.symm
     | cons y c =>
      injection e2 with e2 e3
      exact absurd rfl (h 47 (by rw [e1, e2]; simp))
   rw [h3, this]
 have HI := fun W => Try.stringslite_Index_one (mk (a ++ 47 :: b)) 47 W
 rw [mk_data, hi] at HI
 have HI0 := HI
 clear HI
 have HI := Lib.hid HI0
 clear HI0
 have hl : (mk (a ++ 47 :: b)).size = a.length + 1 + b.length := by rw [mk_len, List.length_append, List.length_cons]; omega
 have x1 : (mk (a ++ 47 :: b)).extract 0 a.length = mk a := by rw [extract_mk]; congr 1; simp
 have x2 : (mk (a ++ 47 :: b)).extract (a.length + 1) (mk (a ++ 47 :: b)).size = mk b := by
  rw [hl, extract_mk]; congr 1
  rw [List.drop_append, List.drop_eq_nil_of_le (by omega)]
  simp
 rw [List.length_append, List.length_cons] at hs
 have g0 : (0 : Int) ≤ (a.length : Int) := by omega
 have g1 : (a.length : Int) ≤ 100000 := by omega
 have g2 : (a.length : Int) ≤ ((mk (a ++ 47 :: b)).size : Int) := by omega
 have g3 : (a.length : Int) + 1 ≤ ((mk (a ++ 47 :: b)).size : Int) := by omega
 have g4 : ((mk (a ++ 47 :: b)).size : Int) ≤ 100001 := by omega
 have X1 := Lib.hid x1
 have X2 := Lib.hid x2
 clear h hi x1 x2 hl hs
 generalize mk (a ++ 47 :: b) = x at *
 generalize mk a = y at *
 generalize mk b = z at *
 generalize a.length = n at *
 go_enter Try.func135, Try.ntmps135
 go_wp2_with (go_at_call 139; refine (HI.out _).mono ?_; rintro e w1 ⟨rfl, rfl⟩)
 go_quiet (fail)
 go_wp2_with fail
 go_ret3
 exact ⟨by show Ending.returned (.tuple #[.string (x.extract 0 n), .string (x.extract (n + 1) x.size), .bool true]) = _; rw [X1.out, X2.out], below_drews' _ _⟩
theorem cut_no (s : List UInt8) (w : World) (hs : s.length ≤ 100000) (h : ∀ c ∈ s, c.toNat ≠ 47) :
  Calls Try.prog 125 #[.string (mk s), .string ⟨#[47]⟩] w fun e w' => e = .returned (.tuple #[.string (mk s), .string ⟨#[]⟩, .bool false]) ∧ Below w.heap.size w w' := by
 have HI := Lib.hid (fun W => lite_cut_no s W hs h)
 clear h hs
 generalize mk s = x at *
 go_enter Try.func125, Try.ntmps125
 go_wp2_with (go_at_call 135; refine (HI.out _).mono ?_; rintro e w1 ⟨rfl, hb⟩)
 go_ret3
 exact ⟨rfl, hb⟩
theorem cut_at (a b : List UInt8) (w : World) (hs : (a ++ 47 :: b).length ≤ 100000) (h : ∀ c ∈ a, c.toNat ≠ 47) :
  Calls Try.prog 125 #[.string (mk (a ++ 47 :: b)), .string ⟨#[47]⟩] w fun e w' => e = .returned (.tuple #[.string (mk a), .string (mk b), .bool true]) ∧ Below w.heap.size w w' := by
 have HI := Lib.hid (fun W => lite_cut_at a b W hs h)
 clear h hs
 generalize mk (a ++ 47 :: b) = x at *
 generalize mk a = y at *
 generalize mk b = z at *
 go_enter Try.func125, Try.ntmps125
 go_wp2_with (go_at_call 135; refine (HI.out _).mono ?_; rintro e w1 ⟨rfl, hb⟩)
 go_ret3
 exact ⟨rfl, hb⟩
open Go.RowKit
theorem Pth.own_at {w w' : World} {base t size n : Nat} {v : Value} {xs : List Value} (h : w.ownsRow base t size v n xs) (k : ∀ i, v.ownBlock = some i → w'.heap[i]? = w.heap[i]?) : w'.ownsRow base t size v n xs := by
 refine ⟨h.1, ?_⟩
 rcases h.2 with hn | ⟨g, cap, cur, rfl, hb, hgg, rest⟩
 ·exact .inl hn
 ·exact .inr ⟨g, cap, cur, rfl, hb, (k g rfl).trans hgg, rest⟩
structure NmAt (w : World) (d e : List (List UInt8)) (v : Value) (wr : World) : Prop where
 own : wr.ownsRow (w.heap.size + 2) 9 1 v d.length (texts d)
 r1 : Row wr w.heap.size 3 #[cnt e]
 r2 : Row wr (w.heap.size + 1) 3 #[room e]
 bel : Below w.heap.size w wr
 size : w.heap.size + 2 ≤ wr.heap.size
theorem NmAt.start (w : World) : NmAt w [] [] (.slice none 0 0) ((w.alloc (.cells #[.int .i64 6] 3)).alloc (.cells #[.int .i64 41] 3)) := by
 refine ⟨World.ownsRow_nil _ _ _ _, (Row.made w _ _).behindNew _, ?_, ((Below.refl _ w).alloc (Nat.le_refl _) _).alloc (by simp) _, by simp⟩
 have := Row.made (w.alloc (.cells #[.int .i64 6] 3)) 3 #[.int .i64 41]
 rw [show (w.alloc (.cells #[.int .i64 6] 3)).heap.size = w.heap.size + 1 from by simp] at this
 exact this
theorem NmAt.below {w w1 w2 : World} {d e : List (List UInt8)} {v : Value} (h : NmAt w d e v w1) (k : Below w1.heap.size w1 w2) : NmAt w d e v w2 :=
 ⟨Pth.own_at h.own (fun i hi => k.block i (h.own.lt _ hi).2), h.r1.below k h.r1.inHeap, h.r2.below k h.r2.inHeap, h.bel.trans (k.mono h.bel.size), Nat.le_trans h.size k.size⟩
theorem NmAt.told {w w1 w2 : World} {d e e' : List (List UInt8)} {v : Value} (h : NmAt w d e v w1) (r1 : Row w2 w.heap.size 3 #[cnt e']) (r2 : Row w2 (w.heap.size + 1) 3 #[room e']) (k : Kept (fun i => i = w.heap.size ∨ i = w.heap.size + 1) w1 w2) : NmAt w d e' v w2 :=
 ⟨Pth.own_at h.own (fun i hi => k.block i (h.own.lt _ hi).2 (by have := (h.own.lt _ hi).1; omega)), r1, r2, h.bel.trans (k.below h.bel.size (fun i hi => by omega)), Nat.le_trans h.size k.size⟩
theorem nm_more {w wr w2 : World} {d e : List (List UInt8)} {v v' : Value} {o : Obj} {x : List UInt8} (h : NmAt w d e v wr) (hown : w2.ownsRow (w.heap.size + 2) 9 1 v' (d.length + 1) (texts d ++ [.string (mk x)])) (hg : (wr.alloc o).grownBy w2 v.ownBlock) : NmAt w (d ++ [x]) e v' w2 := by
 have hne : ∀ k, v.ownBlock = some k → w.heap.size + 2 ≤ k := fun k hk => (h.own.lt k hk).1
 refine ⟨?_, ?_, ?_, ?_, ?_⟩
 ·rw [List.length_append, List.length_singleton]
  simpa [texts] using hown
 ·exact (h.r1.behindNew o).grown hg (fun e => by have := hne _ e; omega)
 ·exact (h.r2.behindNew o).grown hg (fun e => by have := hne _ e; omega)
 ·exact (h.bel.alloc h.bel.size o).grown hg (by have := h.bel.size; simp; omega) (fun k hk => by have := hne k hk; omega)
 ·have := hg.size; have := h.size; simp at *; omega
theorem NmAt.cells {w w' : World} {d e : List (List UInt8)} {v : Value} (h : NmAt w d e v w') : Cells w' (NewIn w w') v (texts d) := Cells.ofOwn h.own (fun _ _ h1 h2 => ⟨by omega, h2⟩)
def moreIn (o m : Value) : Nat := match m, o with | .bool true, .string x => x.size + 1 | _, _ => 0
theorem cut_parts (r : List UInt8) (hr : r.length ≤ 100000) : ∃ (t r' : List UInt8) (m : Bool), (∀ W, Calls Try.prog 125 #[.string (mk r), .string ⟨#[47]⟩] W fun e w' => e = .returned (.tuple #[.string (mk t), .string (mk r'), .bool m]) ∧ Below W.heap.size W w') ∧
  Pth.splitA [] r = t :: (if m then Pth.splitA [] r' else []) ∧ t.length ≤ r.length ∧ r'.length ≤ r.length ∧ moreIn (.string (mk r')) (.bool m) < moreIn (.string (mk r)) (.bool true) := by
 rcases Pth.index_cases r with ⟨-, h⟩ | ⟨a, b, rfl, h, -⟩
 ·refine ⟨r, [], false, fun W => cut_no r W hr h, ?_, Nat.le_refl _, Nat.zero_le _, ?_⟩
  ·rw [Pth.splitA_no h]; simp
  ·show 0 < (mk r).size + 1; omega
 ·refine ⟨a, b, true, fun W => cut_at a b W hr h, ?_, by simp, by simp; omega, ?_⟩
  ·rw [Pth.splitA_at h]; simp
  ·show (mk b).size + 1 < (mk (a ++ 47 :: b)).size + 1
   rw [mk_len, mk_len]; simp; omega
theorem pth_names (s : List UInt8) (w : World) (hs : s.length ≤ 100000) :
    Calls Try.prog 108 #[.string (mk s)] w fun e w' => ∃ v, e = .returned (.tuple #[v, .int .i64 (if Pth.Right s then 0 else 13)]) ∧ Cells w' (NewIn w w') v (texts (if Pth.Right s then Pth.split s else [])) ∧ Below w.heap.size w w' := by
  obtain ⟨i0, hi, hz0, hz1, hz2⟩ := info_parts strInfo
  have HN := Lib.hid (pth_namer w)
  unfold mayF at HN
  generalize hE : (if Pth.Right s then (0 : Int) else 13) = E
  generalize hL : (if Pth.Right s then Pth.split s else []) = L
  have HE := Lib.hid hE
  have HL := Lib.hid hL
  clear hE hL
  go_enter Try.func108, Try.ntmps108
  go_wp2_with (go_at_call 124; refine HN.out.mono ?_; rintro e w1 ⟨rfl, e1⟩
               have h0 := Lib.hid (e1 ▸ NmAt.start w)
               clear e1)
  go_loopw [0, 5, 6] (fun o v b wr => ∃ (d : List (List UInt8)) (u : Value) (x : List UInt8) (m : Bool), o = .string (mk x) ∧ b = .bool m ∧ u = v ∧ Pth.split s = d ++ (if m then Pth.splitA [] x else []) ∧ Pth.Fit d ∧ NmAt w d d u wr ∧ x.length ≤ 100000) (fun o _ b _ => moreIn o b)
  case atStart => exact ⟨[], _, s, true, rfl, rfl, rfl, by simp [Pth.split], Pth.fit_nil, h0.out, hs⟩
  case round =>
    obtain ⟨d, v, x, m, rfl, rfl, rfl, hsp, hfit, hat, hx⟩ := hrel
    cases m
    · have hsd : Pth.split s = d := by rw [hsp]; simp
      have hR : Pth.Right s := (Pth.right_fit s).2 (hsd ▸ hfit)
      have E0 : Hid (E = 0) := Lib.hid (by rw [← HE.out, if_pos hR])
      have L0 : Hid (L = d) := Lib.hid (by rw [← HL.out, if_pos hR, hsd])
      have Hat := Lib.hid hat
      clear hat hsp hfit hR hsd
      generalize mk x = X at *
      go_wp2_with fail
      go_ret2
      exact ⟨v, by rw [E0.out]; rfl, by rw [L0.out]; exact Hat.out.cells, Hat.out.bel⟩
    · obtain ⟨t, r', m', hcut, hsa, htl, hrl, hmeas⟩ := cut_parts x hx
      have HC := Lib.hid hcut
      have hd6 : d.length ≤ 6 := hfit.2.1
      have HM := Lib.hid (fun (W : World) (h : NmAt w d d v W) => pth_may (d := d) t h.r1 h.r2 (by omega) hfit (by omega))
      have Hat := Lib.hid hat
      have Hmeas := Lib.hid hmeas
      clear hcut hat hmeas
      by_cases hn : Pth.Next d t
      · have hsp2 : Hid (Pth.split s = (d ++ [t]) ++ (if m' then Pth.splitA [] r' else [])) := Lib.hid (by rw [hsp, if_pos rfl, hsa]; simp)
        have hfit2 := Lib.hid (Pth.fit_next hfit hn)
        have Hr := Lib.hid (Nat.le_trans hrl hx)
        have Hn := Lib.hid hn
        rw [decide_eq_true hn] at HM
        have hlen : Hid ((texts d).length = d.length) := Lib.hid (texts_len d)
        clear hsp hfit hn htl hrl hsa hx
        generalize hx1 : mk t = x1 at *
        generalize mk x = X at *
        generalize hx2 : mk r' = x2 at *
        go_wp2_with fail
        refine (HC.out _).mono ?_
        rintro e w2 ⟨rfl, hb2⟩
        have h2 := Lib.hid (Hat.out.below hb2)
        clear hb2
        go_wp2_with fail
        refine (HM.out _ h2.out).mono ?_
        rintro e w3 ⟨rfl, hr3, hk3⟩
        have h3 := Lib.hid (h2.out.told (hr3 Hn.out).1 (hr3 Hn.out).2 hk3)
        have hown3 := h3.out.own
        have hz3 := h3.out.size
        clear hr3 hk3
        have hc1 : ∀ {w1 : World} j u, [Value.string x1][j]? = some u → (w1.alloc (.cells #[.string x1] 9)).cell? ((⟨w1.heap.size, 0, none⟩ : Addr).add j) = some u := by
          intro w1 j u hj
          match j, hj with
          | 0, hj => simp at hj; subst hj; simp [Addr.add]
        go_wp2_with (at_builtin; refine wpList_append_own _ rfl _ _ 126 rfl (w.heap.size + 2) 9 i0 (.string ⟨#[]⟩) 1 16 Try.underlying126 hi hz0 hz1 hz2 rfl (by decide) _ _ _ rfl (hown3.alloc _) ⟨w3.heap.size, 0, none⟩ 1 1 [.string x1] rfl rfl hc1 ?c2 ?c3 ?c4 ?c5 ?_)
        case c2 => first | rfl | (intro u hu; simp at hu; subst hu; rfl)
        case c3 => unfold maxLen; omega
        case c4 => omega
        case c5 => first | omega | (simp; omega)
        intro v' w4 hown' hgrow' _
        have hnew := nm_more h3.out (x := t) (v' := v') (by rw [hx1]; simpa using hown') hgrow'
        clear hown' hgrow' hown3
        go_wp2
        go_roundw
        case rel => exact ⟨d ++ [t], _, r', m', by rw [hx2], rfl, rfl, hsp2.out, hfit2.out, hnew, Hr.out⟩
        case measure => exact Hmeas.out
      · have hR : ¬ Pth.Right s := fun h => by
          have := (Pth.right_fit s).1 h
          rw [hsp, if_pos rfl, hsa] at this
          exact Pth.fit_not hn this
        have E0 : Hid (E = 13) := Lib.hid (by rw [← HE.out, if_neg hR])
        have L0 : Hid (L = []) := Lib.hid (by rw [← HL.out, if_neg hR])
        rw [decide_eq_false hn] at HM
        clear hsp hfit hn htl hrl hsa hx hR Hmeas hd6
        generalize mk t = x1 at *
        generalize mk x = X at *
        generalize mk r' = x2 at *
        go_wp2_with fail
        refine (HC.out _).mono ?_
        rintro e w2 ⟨rfl, hb2⟩
        have h2 := Lib.hid (Hat.out.below hb2)
        clear hb2
        go_wp2_with fail
        refine (HM.out _ h2.out).mono ?_
        rintro e w3 ⟨rfl, -, hk3⟩
        have hb3 : Hid (Below w.heap.size w w3) := Lib.hid (h2.out.bel.trans (hk3.below h2.out.bel.size (fun i hi => by omega)))
        clear hk3
        go_wp2_with fail
        go_ret2
        exact ⟨.slice none 0 0, by rw [E0.out]; rfl, by rw [L0.out]; exact Cells.none _ _, hb3.out⟩
theorem pth_check (s : List UInt8) (w : World) (hs : s.length ≤ 100000) :
  Calls Try.prog 79 #[.string (mk s)] w fun e w' => e = .returned (.int .i64 (if Pth.Right s then 0 else 13)) ∧ Below w.heap.size w w' := by
 have HN := Lib.hid (pth_names s w hs)
 generalize (if Pth.Right s then (0 : Int) else 13) = R at *
 generalize mk s = X at *
 go_enter Try.func79, Try.ntmps79
 go_wp2_with (go_at_call 108; refine HN.out.mono ?_; rintro e w1 ⟨v, rfl, -, hb⟩)
 go_ret
 exact ⟨rfl, hb⟩
open Go.RowKit
theorem path_ok : PathOk where
 check := pth_check
 names := pth_names
open Go.RowKit
def Tm.val (m : Tm.Fn) (q : List UInt8) : Value := match m q with | some v => v | none => .slice none 0 0
open Go.RowKit
theorem Flt.first_at {f : List Flt.Cl} {n : Nat} {c : Flt.Cl} (hc : f[n]? = some c) : Flt.first (f.drop n) = if c.pre ≠ [] ∧ ¬ Pth.Right c.pre then 13 else if Flt.Right c then Flt.first (f.drop (n + 1)) else 2 := by
 obtain ⟨hl, he⟩ := List.getElem?_eq_some_iff.1 hc
 rw [List.drop_eq_getElem_cons hl, he]
 rfl
theorem flt_check {w : World} {F : Nat → Prop} {v : Value} {f : List Flt.Cl} (h : Cls w F v f) (hl : f.length ≤ 100000) (bf : ∀ c ∈ f, Flt.Bd c) :
  Calls Try.prog 121 #[v] w fun e w' => e = .returned (.int .i64 (Flt.check f)) ∧ Below w.heap.size w w' := by
 obtain ⟨A, cap, rfl, hcap⟩ := h.parts
 have H := Lib.hid h
 have HS : Hid (∀ c ∈ f, c.pre.length ≤ 100000) := Lib.hid (fun c hc => (bf c hc).1)
 have hl' : (f.length : Int) ≤ 100000 := by omega
 clear h bf
 by_cases h8 : 8 < f.length
 ·have hfin : Hid (Flt.check f = 4) := Lib.hid (by unfold Flt.check; rw [if_pos h8])
  have g8 : (8 : Int) < (f.length : Int) := by omega
  go_enter Try.func121, Try.ntmps121
  go_wp2_with fail
  go_ret
  exact ⟨by rw [hfin.out]; rfl, Below.refl _ _⟩
 ·have hfin : Hid (Flt.check f = Flt.first (f.drop 0)) := Lib.hid (by unfold Flt.check; rw [if_neg h8]; rfl)
  have g8 : ¬ (8 : Int) < (f.length : Int) := by omega
  go_enter Try.func121, Try.ntmps121
  go_wp2_with fail
  go_loopw [4, 10] (fun _ i wr => ∃ n : Nat, n ≤ f.length ∧ i = .int .i64 (n : Int) ∧ Hid (Flt.check f = Flt.first (f.drop n)) ∧ Below w.heap.size w wr) (fun _ i _ => f.length - (intOf i).toNat)
  case atStart => exact ⟨0, Nat.zero_le _, rfl, hfin, Below.refl _ _⟩
  case round =>
   obtain ⟨n, hn, rfl, hck, hbel⟩ := hrel
   by_cases hlt : n < f.length
   ·obtain ⟨b, o, cap', e, -, -, hb⟩ := H.out.block (by omega)
    injection e with e1 e2 e3
    subst e1 e3
    clear e2
    obtain ⟨x, hx⟩ : ∃ x, f[n]? = some x := ⟨_, List.getElem?_eq_getElem hlt⟩
    have hpx := HS.out x (List.mem_of_getElem? hx)
    have hn0 : (0 : Int) ≤ (n : Int) := by omega
    have hn1 : (n : Int) < (f.length : Int) := by omega
    have CA : Hid (∀ W, Below w.heap.size w W → W.cell? ⟨b, o + n * 3, none⟩ = some (.string (mk x.pre)) ∧ W.cell? ⟨b, o + n * 3 + 1, none⟩ = some (.int .i64 x.lo) ∧ W.cell? ⟨b, o + n * 3 + 2, none⟩ = some (.int .i64 x.hi)) := Lib.hid (fun W hW => Cls.at (H.out.below hW) hx)
    obtain ⟨c0, c1, c2⟩ := CA.out wr hbel
    have hst := Lib.hid (Flt.first_at hx)
    obtain ⟨p, lo, hi⟩ := x
    simp only at c0 c1 c2 hpx CA
    have hst : Hid (Flt.first (f.drop n) = if p ≠ [] ∧ ¬ Pth.Right p then 13 else if Flt.Right ⟨p, lo, hi⟩ then Flt.first (f.drop (n + 1)) else 2) := hst
    have PC := Lib.hid (fun (W : World) => path_ok.check p W hpx)
    have ea := str_nil p
    have ia := str_empty p
    have hD : Hid (decide (Flt.Right ⟨p, lo, hi⟩) = ((decide (p = []) || decide (Pth.Right p)) && (decide (0 ≤ lo) && (decide (lo ≤ hi) && decide (hi ≤ 200))))) := Lib.hid (by rw [Bool.eq_iff_iff]; refine decide_eq_true_iff.trans ?_; simp only [Flt.Right, decide_eq_true_iff, Bool.and_eq_true, Bool.or_eq_true])
    have Hbel := Lib.hid hbel
    have Hbx := Lib.hid (Row.made wr 64 #[.string (mk p), .int .i64 lo, .int .i64 hi])
    have hz : wr.heap.size < (wr.alloc (.cells #[.string (mk p), .int .i64 lo, .int .i64 hi] 64)).heap.size := by simp
    have Hz := Lib.hid hz
    have HB1 : Hid (Below w.heap.size w (wr.alloc (.cells #[.string (mk p), .int .i64 lo, .int .i64 hi] 64))) := Lib.hid (hbel.alloc hbel.size _)
    clear hbel hx hz CA
    by_cases hp : p ≠ [] ∧ ¬ Pth.Right p
    ·have hck2 : Hid (Flt.check f = 13) := Lib.hid (by rw [hck.out, hst.out, if_pos hp])
     rw [decide_eq_false hp.1] at ea ia
     have PC : Hid (∀ W, Calls Try.prog 79 #[.string (mk p)] W fun e w' => e = .returned (.int .i64 13) ∧ Below W.heap.size W w') := Lib.hid (fun W => by have := PC.out W; rwa [if_neg hp.2] at this)
     clear hst hp hD hck
     generalize mk p = ps at *
     go_wp2_with fail
     refine (PC.out _).mono ?_
     rintro e w2 ⟨rfl, hb2⟩
     have HB2 := Lib.hid (HB1.out.trans (hb2.mono HB1.out.size))
     clear hb2
     go_wp2_with fail
     go_ret
     exact ⟨by rw [hck2.out]; rfl, HB2.out⟩
    ·have hst2 : Hid (Flt.check f = if decide (Flt.Right ⟨p, lo, hi⟩) = true then Flt.first (f.drop (n + 1)) else 2) := Lib.hid (by
      rw [hck.out, hst.out, if_neg hp]
      by_cases hr : Flt.Right ⟨p, lo, hi⟩
      ·rw [if_pos hr, if_pos (decide_eq_true hr)]
      ·rw [if_neg hr, if_neg (by simpa using hr)])
     have hD2 : Hid (decide (Flt.Right ⟨p, lo, hi⟩) = (decide (0 ≤ lo) && (decide (lo ≤ hi) && decide (hi ≤ 200)))) := Lib.hid (by
      rw [hD.out]
      by_cases h1 : p = []
      ·rw [decide_eq_true h1]; rfl
      ·rw [decide_eq_true (Classical.byContradiction fun k => hp ⟨h1, k⟩), Bool.or_true, Bool.true_and])
     rw [hD2.out] at hst2
     clear hst hD hD2 hck
     by_cases h1 : p = []
     ·rw [decide_eq_true h1] at ea ia
      clear hp h1 PC
      generalize mk p = ps at *
      by_cases k1 : lo < 0
      ·have hno : Hid (Flt.check f = 2) := Lib.hid (by rw [hst2.out, if_neg]; simp only [Bool.and_eq_true, decide_eq_true_eq]; omega)
       clear hst2
       have : decide (lo < (0 : Int)) = true := decide_eq_true (by omega)
       go_wp2_with fail
       go_ret
       exact ⟨by rw [hno.out]; rfl, HB1.out⟩
      ·by_cases k2 : hi < lo
       ·have hno : Hid (Flt.check f = 2) := Lib.hid (by rw [hst2.out, if_neg]; simp only [Bool.and_eq_true, decide_eq_true_eq]; omega)
        clear hst2
        have : decide (lo < (0 : Int)) = false := decide_eq_false (by omega)
        have : decide (hi < lo) = true := decide_eq_true (by omega)
        go_wp2_with fail
        go_ret
        exact ⟨by rw [hno.out]; rfl, HB1.out⟩
       ·by_cases k3 : 200 < hi
        ·have hno : Hid (Flt.check f = 2) := Lib.hid (by rw [hst2.out, if_neg]; simp only [Bool.and_eq_true, decide_eq_true_eq]; omega)
         clear hst2
         have : decide (lo < (0 : Int)) = false := decide_eq_false (by omega)
         have : decide (hi < lo) = false := decide_eq_false (by omega)
         have : decide ((200 : Int) < hi) = true := decide_eq_true (by omega)
         go_wp2_with fail
         go_ret
         exact ⟨by rw [hno.out]; rfl, HB1.out⟩
        ·have hnext : Hid (Flt.check f = Flt.first (f.drop (n + 1))) := Lib.hid (by rw [hst2.out, if_pos]; simp only [Bool.and_eq_true, decide_eq_true_eq]; omega)
         clear hst2
         have : decide (lo < (0 : Int)) = false := decide_eq_false (by omega)
         have : decide (hi < lo) = false := decide_eq_false (by omega)
         have : decide ((200 : Int) < hi) = false := decide_eq_false (by omega)
         go_wp2_with fail
         exact ⟨⟨n + 1, by omega, by go_num, hnext, HB1.out⟩, by show f.length - ((n : Int) + 1).toNat < f.length - (n : Int).toNat; omega⟩
     ·rw [decide_eq_false h1] at ea ia
      have PC : Hid (∀ W, Calls Try.prog 79 #[.string (mk p)] W fun e w' => e = .returned (.int .i64 0) ∧ Below W.heap.size W w') := Lib.hid (fun W => by have := PC.out W; rwa [if_pos (Classical.byContradiction fun k => hp ⟨h1, k⟩)] at this)
      clear hp h1
      generalize mk p = ps at *
      by_cases k1 : lo < 0
      ·have hno : Hid (Flt.check f = 2) := Lib.hid (by rw [hst2.out, if_neg]; simp only [Bool.and_eq_true, decide_eq_true_eq]; omega)
       clear hst2
       have : decide (lo < (0 : Int)) = true := decide_eq_true (by omega)
       go_wp2_with fail
       refine (PC.out _).mono ?_
       rintro e w2 ⟨rfl, hb2⟩
       have HB2 := Lib.hid (HB1.out.trans (hb2.mono HB1.out.size))
       have q1 : w2.cell? ⟨wr.heap.size, 1, none⟩ = some (.int .i64 lo) := (hb2.cell (p := ⟨wr.heap.size, 1, none⟩) Hz.out).trans (Hbx.out.at 1)
       have q2 : w2.cell? ⟨wr.heap.size, 2, none⟩ = some (.int .i64 hi) := (hb2.cell (p := ⟨wr.heap.size, 2, none⟩) Hz.out).trans (Hbx.out.at 2)
       clear hb2
       go_wp2_with fail
       go_ret
       exact ⟨by rw [hno.out]; rfl, HB2.out⟩
      ·by_cases k2 : hi < lo
       ·have hno : Hid (Flt.check f = 2) := Lib.hid (by rw [hst2.out, if_neg]; simp only [Bool.and_eq_true, decide_eq_true_eq]; omega)
        clear hst2
        have : decide (lo < (0 : Int)) = false := decide_eq_false (by omega)
        have : decide (hi < lo) = true := decide_eq_true (by omega)
        go_wp2_with fail
        refine (PC.out _).mono ?_
        rintro e w2 ⟨rfl, hb2⟩
        have HB2 := Lib.hid (HB1.out.trans (hb2.mono HB1.out.size))
        have q1 : w2.cell? ⟨wr.heap.size, 1, none⟩ = some (.int .i64 lo) := (hb2.cell (p := ⟨wr.heap.size, 1, none⟩) Hz.out).trans (Hbx.out.at 1)
        have q2 : w2.cell? ⟨wr.heap.size, 2, none⟩ = some (.int .i64 hi) := (hb2.cell (p := ⟨wr.heap.size, 2, none⟩) Hz.out).trans (Hbx.out.at 2)
        clear hb2
        go_wp2_with fail
        go_ret
        exact ⟨by rw [hno.out]; rfl, HB2.out⟩
       ·by_cases k3 : 200 < hi
        ·have hno : Hid (Flt.check f = 2) := Lib.hid (by rw [hst2.out, if_neg]; simp only [Bool.and_eq_true, decide_eq_true_eq]; omega)
         clear hst2
         have : decide (lo < (0 : Int)) = false := decide_eq_false (by omega)
         have : decide (hi < lo) = false := decide_eq_false (by omega)
         have : decide ((200 : Int) < hi) = true := decide_eq_true (by omega)
         go_wp2_with fail
         refine (PC.out _).mono ?_
         rintro e w2 ⟨rfl, hb2⟩
         have HB2 := Lib.hid (HB1.out.trans (hb2.mono HB1.out.size))
         have q1 : w2.cell? ⟨wr.heap.size, 1, none⟩ = some (.int .i64 lo) := (hb2.cell (p := ⟨wr.heap.size, 1, none⟩) Hz.out).trans (Hbx.out.at 1)
         have q2 : w2.cell? ⟨wr.heap.size, 2, none⟩ = some (.int .i64 hi) := (hb2.cell (p := ⟨wr.heap.size, 2, none⟩) Hz.out).trans (Hbx.out.at 2)
         clear hb2
         go_wp2_with fail
         go_ret
         exact ⟨by rw [hno.out]; rfl, HB2.out⟩
        ·have hnext : Hid (Flt.check f = Flt.first (f.drop (n + 1))) := Lib.hid (by rw [hst2.out, if_pos]; simp only [Bool.and_eq_true, decide_eq_true_eq]; omega)
         clear hst2
         have : decide (lo < (0 : Int)) = false := decide_eq_false (by omega)
         have : decide (hi < lo) = false := decide_eq_false (by omega)
         have : decide ((200 : Int) < hi) = false := decide_eq_false (by omega)
         go_wp2_with fail
         refine (PC.out _).mono ?_
         rintro e w2 ⟨rfl, hb2⟩
         have HB2 := Lib.hid (HB1.out.trans (hb2.mono HB1.out.size))
         have q1 : w2.cell? ⟨wr.heap.size, 1, none⟩ = some (.int .i64 lo) := (hb2.cell (p := ⟨wr.heap.size, 1, none⟩) Hz.out).trans (Hbx.out.at 1)
         have q2 : w2.cell? ⟨wr.heap.size, 2, none⟩ = some (.int .i64 hi) := (hb2.cell (p := ⟨wr.heap.size, 2, none⟩) Hz.out).trans (Hbx.out.at 2)
         clear hb2
         go_wp2_with fail
         exact ⟨⟨n + 1, by omega, by go_num, hnext, HB2.out⟩, by show f.length - ((n : Int) + 1).toNat < f.length - (n : Int).toNat; omega⟩
   ·obtain rfl : n = f.length := by omega
    rw [List.drop_length] at hck
    have Hbel := Lib.hid hbel
    clear hbel
    go_wp2_with fail
    go_ret
    exact ⟨by rw [hck.out]; rfl, Hbel.out⟩
open Go.RowKit Go.Shelf Go.Lib
instance : Inhabited Flt.Cl := ⟨⟨[], 0, 0⟩⟩
abbrev BCl := { c : Flt.Cl // Flt.Bd c }
instance : Inhabited BCl := ⟨⟨⟨[], 0, 0⟩, ⟨by simp, by unfold Go.Proofs.Ytmpajhjfnfcdlaa.Bd Flt.rg; simp⟩⟩⟩
open Go.RowKit
def txV (t : List UInt8) : List Value := [.string (mk t)]
abbrev Txs (w : World) (F : Nat → Prop) (v : Value) (l : List (List UInt8)) : Prop := Rws 1 txV w F v l
theorem Txs.cells {w : World} {F : Nat → Prop} {v : Value} {l : List (List UInt8)} (h : Txs w F v l) : Cells w F v (texts l) := by
 obtain ⟨A, c, rfl, hc, hat⟩ := h
 refine ⟨A, c, by rw [texts_len], by rw [texts_len]; exact hc, fun hp => ?_⟩
 rw [texts_len] at hp
 obtain ⟨b, o, rfl, h1, h2, h3⟩ := hat hp
 refine ⟨b, o, rfl, h1, h2, fun i u hu => ?_⟩
 unfold texts at hu
 rw [List.getElem?_map] at hu
 cases hx : l[i]? with
 | none => rw [hx] at hu; cases hu
 | some x =>
  rw [hx] at hu
  have := h3 i x hx 0 u (by simpa [txV] using hu)
  rw [Nat.mul_one] at this
  exact this
theorem Txs.at {w : World} {F : Nat → Prop} {b o : Nat} {n cap : Nat} {l : List (List UInt8)} (h : Txs w F (.slice (some ⟨b, o, none⟩) n cap) l) {i : Nat} {x : List UInt8} (hx : l[i]? = some x) : w.cell? ⟨b, o + i, none⟩ = some (.string (mk x)) := by
 obtain ⟨A, c, e, -, hat⟩ := h
 injection e with e1 e2 e3
 obtain ⟨b', o', e, -, -, hc⟩ := hat (by obtain ⟨hl, _⟩ := List.getElem?_eq_some_iff.1 hx; omega)
 rw [e] at e1
 injection e1 with e1
 injection e1 with e1 e2
 subst e1 e2
 have := hc i x hx 0 _ rfl
 rwa [Nat.mul_one] at this
open Go.RowKit Go.Sort
section
variable {α : Type} [Inhabited α] {enc : α → List Value} {k : Nat}
end
open Go.RowKit Go.Shelf Go.Lib Go.Sort
open Go.RowKit
open Go.RowKit
open Go.RowKit
open Go.RowKit Go.Shelf Go.Lib
open Go.RowKit Go.Shelf Go.Lib Go.Sort
open Go.RowKit
open Go.RowKit
theorem flat_set (out : List Sz.Rg) (q : Sz.Rg) (u : Int) : ((out ++ [q]).flatMap rgV).set (out.length * 2 + 1) (.int .i64 u) = (out ++ [(q.1, u)]).flatMap rgV := by
 rw [List.flatMap_append, List.flatMap_append]
 have hl : (out.flatMap rgV).length = out.length * 2 := rows_len (f := rgV) (k := 2) out (fun _ _ => rfl)
 rw [List.set_append_right _ _ (by omega)]
 congr 1
 rw [hl, show out.length * 2 + 1 - out.length * 2 = 1 by omega]
 rfl
theorem RowsOwn.last {w wr : World} {out : List Sz.Rg} {q : Sz.Rg} {g cap : Nat} {T : Nat} (h : RowsOwn T 2 rgV w (out ++ [q]) (.slice (some ⟨g, 0, none⟩) (out ++ [q]).length cap) wr) (u : Int) :
  RowsOwn T 2 rgV w (out ++ [(q.1, u)]) (.slice (some ⟨g, 0, none⟩) (out ++ [q]).length cap) (wr.setCell ⟨g, out.length * 2 + 1, none⟩ (.int .i64 u)) := by
 have hg := h.1.lt g rfl
 have hs := h.1.stored (out.length * 2 + 1) (.int .i64 u)
 refine ⟨?_, h.2.grown hs.2 h.2.size (fun k hk => by injection hk with hk; omega)⟩
 have h1 := hs.1
 rw [flat_set] at h1
 rw [List.length_append, List.length_singleton] at h1 ⊢
 rw [List.length_append, List.length_singleton]
 exact h1
open Go.RowKit
theorem gb_set (w : World) (p : Addr) (u : Value) : w.grownBy (w.setCell p u) (some p.block) :=
 ⟨rfl, rfl, rfl, by simp [World.setCell], fun k _ hn => Below.heap_setCell w p u k (fun e => hn (by rw [e]))⟩
structure CutAt (W : World) (c hi : Int) (I O : List Sz.Rg) (vi vo : Value) (wr : World) : Prop where
 oi : wr.ownsRow (W.heap.size + 1) 62 2 vi I.length (I.flatMap rgV)
 oo : wr.ownsRow (W.heap.size + 1) 62 2 vo O.length (O.flatMap rgV)
 ap : ∀ g, vi.ownBlock = some g → vo.ownBlock ≠ some g
 row : Row wr W.heap.size 62 #[.int .i64 c, .int .i64 hi]
 bel : Below W.heap.size W wr
 sz : W.heap.size + 1 ≤ wr.heap.size
section
variable {W wr w' : World} {c hi : Int} {I O X : List Sz.Rg} {vi vo v' : Value}
theorem CutAt.start (W : World) (lo hi : Int) : CutAt W lo hi [] [] (.slice none 0 0) (.slice none 0 0) (W.alloc (.cells #[.int .i64 lo, .int .i64 hi] 62)) :=
 ⟨World.ownsRow_nil _ _ _ _, World.ownsRow_nil _ _ _ _, fun g h => (by cases h), Row.made W _ _, (Below.refl _ _).alloc (Nat.le_refl _) _, by simp⟩
theorem CutAt.alloc (h : CutAt W c hi I O vi vo wr) (o : Obj) : CutAt W c hi I O vi vo (wr.alloc o) :=
 ⟨h.oi.alloc o, h.oo.alloc o, h.ap, h.row.behindNew o, h.bel.alloc h.bel.size o, by have := h.sz; simp; omega⟩
theorem CutAt.out (h : CutAt W c hi I O vi vo wr) (ho : w'.ownsRow (W.heap.size + 1) 62 2 v' (O ++ X).length ((O ++ X).flatMap rgV)) (hg : wr.grownBy w' vo.ownBlock) (hn : Near wr vo v') : CutAt W c hi I (O ++ X) vi v' w' := by
 have hne : ∀ k, vo.ownBlock = some k → W.heap.size + 1 ≤ k := fun k hk => (h.oo.lt k hk).1
 exact ⟨own_left h.oi hg h.ap, ho, hn.apart h.ap h.oi (Nat.le_refl _), h.row.grown hg (fun e => by have := hne _ e; omega), h.bel.grown hg h.bel.size (fun k hk => by have := hne k hk; omega), by have := hg.size; have := h.sz; omega⟩
theorem CutAt.set (h : CutAt W c hi I O vi vo wr) (d : Int) : CutAt W d hi I O vi vo (wr.setCell ⟨W.heap.size, 0, none⟩ (.int .i64 d)) := by
 have hg := gb_set wr ⟨W.heap.size, 0, none⟩ (.int .i64 d)
 refine ⟨own_left h.oi hg (fun g e1 e2 => ?_), own_left h.oo hg (fun g e1 e2 => ?_), h.ap, by simpa using h.row.stored 0 (.int .i64 d), h.bel.grown hg h.bel.size (fun k hk => by injection hk with hk; exact Nat.le_of_eq hk), by simpa [World.setCell] using h.sz⟩
 ·have := (h.oi.lt g e1).1
  injection e2 with e2
  have e3 : W.heap.size = g := e2
  omega
 ·have := (h.oo.lt g e1).1
  injection e2 with e2
  have e3 : W.heap.size = g := e2
  omega
end
open Go.RowKit
structure PartAt (w : World) (I O : List Sz.Rg) (vi vo : Value) (wr : World) : Prop where
 oi : wr.ownsRow w.heap.size 62 2 vi I.length (I.flatMap rgV)
 oo : wr.ownsRow w.heap.size 62 2 vo O.length (O.flatMap rgV)
 ap : ∀ g, vi.ownBlock = some g → vo.ownBlock ≠ some g
 bel : Below w.heap.size w wr
section
variable {w wr w' : World} {I O X : List Sz.Rg} {vi vo v' : Value}
theorem PartAt.start (w : World) : PartAt w [] [] (.slice none 0 0) (.slice none 0 0) w := ⟨World.ownsRow_nil _ _ _ _, World.ownsRow_nil _ _ _ _, fun g h => (by cases h), Below.refl _ _⟩
theorem PartAt.below (h : PartAt w I O vi vo wr) (hb : Below wr.heap.size wr w') : PartAt w I O vi vo w' := by
 have hg : wr.grownBy w' none := ⟨hb.os, hb.tape, hb.output, hb.size, fun k hk _ => hb.block k hk⟩
 exact ⟨own_left h.oi hg (fun g _ e => by cases e), own_left h.oo hg (fun g _ e => by cases e), h.ap, h.bel.trans (hb.mono h.bel.size)⟩
theorem PartAt.out (h : PartAt w I O vi vo wr) (ho : w'.ownsRow w.heap.size 62 2 v' (O.length + X.length) (O.flatMap rgV ++ X.flatMap rgV)) (hg : wr.grownBy w' vo.ownBlock) (hn : Near wr vo v') : PartAt w I (O ++ X) vi v' w' := by
 have ho2 : w'.ownsRow w.heap.size 62 2 v' (O ++ X).length ((O ++ X).flatMap rgV) := by rw [List.length_append, List.flatMap_append]; exact ho
 exact ⟨own_left h.oi hg h.ap, ho2, hn.apart h.ap h.oi (Nat.le_refl _), h.bel.grown hg h.bel.size (fun k hk => (h.oo.lt k hk).1)⟩
end
open Go.RowKit Go.Shelf Go.Lib
open Go.RowKit
section
variable {w : World} {F G : Nat → Prop} {u v : Value} {a b l : List Sz.Rg}
end
open Go.RowKit Go.Shelf Go.Lib
open Go.RowKit
open Go.RowKit
theorem filter_ok : FilterOk where
 check := flt_check
end Go.Proofs.Ytmpajhjfnfcdlaa
