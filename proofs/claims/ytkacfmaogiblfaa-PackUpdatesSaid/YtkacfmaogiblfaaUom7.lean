import Derived.Test.YtkacfmaogiblfaaUom5
import Derived.Test.YtkacfmaogiblfaaUom6
import Derived.Test.YtkacfmaogiblfaaUom4
import Derived.Test.YtkacfmaogiblfaaUom3
import Derived.Deep.QuietTactic
import Derived.Shelf.SlSortCmp.QuietGrown
import Derived.Deep.RegionLaw
import Derived.BigQuiet
set_option maxRecDepth 100000
set_option linter.all false
set_option maxHeartbeats 12800000
namespace Go.Proofs.Ytkacfmaogiblfaa
open Go.RowKit Go.Sort
theorem pck_n {w : World} {b : Nat} {l : List UInt8} {e : Int} (h : RdL w b l e) (hm : l.length ≤ 100000) :
  Calls Try.prog 86 #[.pointer (some ⟨b, 0, none⟩)] w fun ed w' => ed = .returned (.int .i64 (Pck.rn l e).1) ∧ RdL w' b (Pck.rn l e).2.1 (Pck.rn l e).2.2 ∧ w.grownBy w' (some b) := n_any h (by omega)
theorem pck_t {w : World} {b : Nat} {l : List UInt8} {e : Int} (h : RdL w b l e) (hm : l.length ≤ 100000) :
  Calls Try.prog 85 #[.pointer (some ⟨b, 0, none⟩)] w fun ed w' => ed = .returned (.string (mk (Pck.rt l e).1)) ∧ RdL w' b (Pck.rt l e).2.1 (Pck.rt l e).2.2 ∧ w.grownBy w' (some b) := t_any h (by omega)
theorem pck_inner {w : World} {b : Nat} {l : List UInt8} {e : Int} (h : RdL w b l e) (hm : l.length ≤ 100000) :
  Calls Try.prog 98 #[.pointer (some ⟨b, 0, none⟩)] w fun ed w' => ∃ p, ed = .returned (.pointer (some ⟨p, 0, none⟩)) ∧ RdL w' p (stepT l e).1 0 ∧ w.heap.size ≤ p ∧ RdL w' b (stepT l e).2.1 (stepT l e).2.2 ∧ w.grownBy w' (some b) := by
 have N1 := Lib.hid (pck_t h hm)
 have hbw : b < w.heap.size := Row.inHeap h
 have HB := Lib.hid hbw
 unfold Pck.rt at N1
 generalize stepT l e = s1 at *
 obtain ⟨t, l1, e1⟩ := s1
 dsimp only at N1 ⊢
 have OV := Lib.hid (fun W => over_any (mk t) W)
 rw [mk_data] at OV
 generalize mk t = x at *
 clear h hm hbw
 go_enter Try.func98, Try.ntmps98
 go_wp2_with fail
 refine N1.out.mono ?_
 rintro ed w1 ⟨rfl, h1, g1⟩
 have D1 := Lib.hid h1
 have G1 := Lib.hid g1
 clear h1 g1
 go_wp2_with fail
 refine (OV.out _).mono ?_
 rintro ed w2 ⟨rfl, h2, b2⟩
 have D2 := Lib.hid h2
 have B2 := Lib.hid b2
 clear h2 b2
 go_wp2_with fail
 go_ret
 exact ⟨_, rfl, D2.out, G1.out.size, Row.below D1.out B2.out (Row.inHeap D1.out), gb_trans G1.out (gb_below B2.out _)⟩
theorem pck_ver {w : World} {b : Nat} {l : List UInt8} {e : Int} (h : RdL w b l e) (hm : l.length ≤ 100000) :
  Calls Try.prog 61 #[.pointer (some ⟨b, 0, none⟩)] w fun ed w' => ed = .returned (verA (Pck.rdVer l e).1) ∧ RdL w' b (Pck.rdVer l e).2.1 (Pck.rdVer l e).2.2 ∧ w.grownBy w' (some b) := by
 have hbw : b < w.heap.size := Row.inHeap h
 simp only [Pck.rdVer, Pck.bnd, Pck.ret]
 have hl1 := Pck.rn_left l e
 have N1 := Lib.hid (fun (W : World) (h : RdL W b l e) => pck_n h (by omega))
 generalize Pck.rn l e = s1 at *
 obtain ⟨x, l1, e1⟩ := s1
 dsimp only at hl1 N1 ⊢
 have hl2 := Pck.rn_left l1 e1
 have N2 := Lib.hid (fun (W : World) (h : RdL W b l1 e1) => pck_n h (by omega))
 generalize Pck.rn l1 e1 = s2 at *
 obtain ⟨y, l2, e2⟩ := s2
 dsimp only at hl2 N2 ⊢
 clear hl1 hl2
 dsimp only [verA]
 have D0 : Hid (RdL (w.alloc (.cells #[.int .i64 0, .int .i64 0] 23)) b l e) := Lib.hid (Row.behindNew h _)
 have G0 := Lib.hid (gb_new (gb_refl w (some b)) (.cells #[.int .i64 0, .int .i64 0] 23))
 have R0 := Lib.hid (Row.made w 23 #[.int .i64 0, .int .i64 0])
 have Hne : Hid (some b ≠ some w.heap.size) := Lib.hid (fun e => by injection e with e; omega)
 have Hsz : Hid ((Try.prog.info? 23).map (·.size) = some 2) := Lib.hid (by kernel_rfl)
 clear h hm hbw
 go_enter Try.func61, Try.ntmps61
 go_wp2_with fail
 refine (N1.out _ D0.out).mono ?_
 rintro ed w1 ⟨rfl, h1, g1⟩
 have R1 := Lib.hid (R0.out.grown g1 Hne.out)
 have D1 := Lib.hid h1
 have G1 := Lib.hid (gb_trans G0.out g1)
 clear h1 g1
 go_wp2_with fail
 refine (N2.out _ D1.out).mono ?_
 rintro ed w2 ⟨rfl, h1, g1⟩
 have R2 := Lib.hid (R1.out.grown g1 Hne.out)
 have D2 := Lib.hid h1
 have G2 := Lib.hid (gb_trans G1.out g1)
 clear h1 g1
 go_wp2_with (refine wpList_rstore (cs := [.int .i64 x, .int .i64 y]) (by rfl) (.tmp 2) (.tmp 7) (by rfl) (by rfl) (by rfl) R2.out Hsz.out rfl (by simp [Value.oneCell']) ?_)
 rintro w9 hr9 hk9
 have R9 := Lib.hid hr9
 have D9 : Hid (RdL w9 b l2 e2) := Lib.hid (Row.kept D2.out hk9 (fun e => Hne.out (congrArg some e)))
 have G9 := Lib.hid (gb_kept G2.out hk9 (fun i e => by omega))
 clear hr9 hk9
 go_wp2_with fail
 exact bodyPost_ret (v := .agg #[.int .i64 x, .int .i64 y]) (results_cell_row (by rfl) _ _ w.heap.size 23 _ (0, 0) _ (by rfl) R9.out Try.underlying23 rfl Hsz.out) rfl ⟨rfl, D9.out, G9.out⟩
open Go.RowKit Go.Sort
theorem ver_drews (w : World) (n : Nat) : Below w.heap.size w (w.drewN n) := ⟨rfl, rfl, rfl, Nat.le_refl _, fun _ _ => rfl⟩
theorem laid_one (w : World) (o : Obj) : Laid w (w.alloc o) := Laid.new w o
theorem laid_two (w : World) (o p : Obj) : Laid w ((w.alloc o).alloc p) := (Laid.new w o).trans (Laid.new _ p)
theorem ref_vright (w : World) (v : Ver.V) : Calls Try.prog 38 #[verA v] w fun e w' => e = .returned (.bool (decide (Ver.Right v))) ∧ Laid w w' := by
 have L := Lib.hid (laid_one w)
 have e : decide (Ver.Right v) = (decide ((1 : Int) ≤ v.by_) && (decide (v.by_ ≤ 64) && decide ((1 : Int) ≤ v.n))) := by rw [Bool.eq_iff_iff, decide_eq_true_iff]; simp [Ver.Right]
 have E := Lib.hid e
 clear e
 obtain ⟨x, y⟩ := v
 simp only at E ⊢
 by_cases h1 : (1 : Int) ≤ x
 ·by_cases h2 : x ≤ 64
  ·go_enter Try.func38, Try.ntmps38
   go_wp2_with fail
   go_ret
   exact ⟨by rw [E.out]; first | (simp [h1, h2]; done) | (simp [h1, h2]; omega), L.out _⟩
  ·go_enter Try.func38, Try.ntmps38
   go_wp2_with fail
   go_ret
   exact ⟨by rw [E.out]; first | (simp [h1, h2]; done) | (simp [h1, h2]; omega), L.out _⟩
 ·go_enter Try.func38, Try.ntmps38
  go_wp2_with fail
  go_ret
  exact ⟨by rw [E.out]; first | (simp [h1]; done) | (simp [h1]; omega), L.out _⟩
theorem before_alt (x y x' y' : Int) : decide (Ver.Before ⟨x, y⟩ ⟨x', y'⟩) = (decide (x < x') || (decide (x = x') && decide (y < y'))) := by rw [Bool.eq_iff_iff, decide_eq_true_iff]; simp [Ver.Before]
open Go.RowKit Go.Sort
theorem verInfo : (Try.prog.info? 23).map (fun i => (i.zero, i.size, i.bytes)) = some (some (.agg #[.int .i64 0, .int .i64 0]), 2, 16) := by kernel_rfl
theorem ver_parts {P : Program} {t : TypeId} {z : Value} {s b : Nat} (h : (P.info? t).map (fun i => (i.zero, i.size, i.bytes)) = some (some z, s, b)) : ∃ i, P.info? t = some i ∧ i.zero = some z ∧ i.size = s ∧ i.bytes = b := by
 cases hi : P.info? t with
 | none => rw [hi] at h; cases h
 | some i =>
  rw [hi] at h
  injection h with h
  injection h with h1 h2
  injection h2 with h2 h3
  exact ⟨i, rfl, h1, h2, h3⟩
theorem ver_made (W : World) (t : TypeId) (x : Ver.V) : Vrs (W.alloc (.cells #[.int .i64 x.by_, .int .i64 x.n] t)) (fun i => i = W.heap.size) (.slice (some ⟨W.heap.size, 0, none⟩) 1 1) [x] :=
 ⟨some ⟨W.heap.size, 0, none⟩, 1, rfl, Nat.le_refl _, fun _ => ⟨W.heap.size, 0, rfl, rfl, by simp, fun i y hy j u hu => by
  rw [(Row.made W _ _).at]
  match i, hy with
  | 0, hy => (simp at hy; subst hy; match j, hu with
   | 0, hu => simp [verV] at hu; subst hu; rfl
   | 1, hu => simp [verV] at hu; subst hu; rfl)⟩⟩
open Go.RowKit
def boolV (b : Bool) : List Value := [.bool b]
abbrev Bools (w : World) (F : Nat → Prop) (v : Value) (l : List Bool) : Prop := Rws 1 boolV w F v l
theorem Bools.at {w : World} {F : Nat → Prop} {b o : Nat} {n cap : Nat} {l : List Bool} (h : Bools w F (.slice (some ⟨b, o, none⟩) n cap) l) {i : Nat} {x : Bool} (hx : l[i]? = some x) : w.cell? ⟨b, o + i, none⟩ = some (.bool x) := by
 obtain ⟨A, c, e, -, hat⟩ := h
 injection e with e1 e2 e3
 obtain ⟨b', o', e, -, -, hc⟩ := hat (by obtain ⟨hl, _⟩ := List.getElem?_eq_some_iff.1 hx; omega)
 rw [e] at e1
 injection e1 with e1
 injection e1 with e1 e2
 subst e1 e2
 have := hc i x hx 0 _ rfl
 rwa [Nat.mul_one, Nat.add_zero] at this
open Go.RowKit
namespace Pth
def Cut (s : Tx) (D : List Tx) (p i : Nat) : Prop := p ≤ i ∧ i ≤ s.length ∧ split s = D ++ splitA ((s.take i).drop p) (s.drop i) ∧ D.length ≤ i
theorem cut_start (s : Tx) : Cut s [] 0 0 := ⟨Nat.le_refl _, Nat.zero_le _, by simp [split], Nat.le_refl _⟩
theorem cut_end {s : Tx} {D : List Tx} {p : Nat} (h : Cut s D p s.length) : split s = D ++ [s.drop p] := by
 have := h.2.2.1
 rw [List.take_length, List.drop_length] at this
 exact this
theorem cut_next {s : Tx} {D : List Tx} {p i : Nat} {c : UInt8} (h : Cut s D p i) (hc : s[i]? = some c) : if c.toNat = 47 then Cut s (D ++ [(s.take i).drop p]) (i + 1) (i + 1) else Cut s D p (i + 1) := by
 obtain ⟨h1, h2, h3, h4⟩ := h
 obtain ⟨hl, he⟩ := List.getElem?_eq_some_iff.1 hc
 have hd : s.drop i = c :: s.drop (i + 1) := by rw [List.drop_eq_getElem_cons hl, he]
 rw [hd] at h3
 unfold splitA at h3
 split
 ·rename_i h7
  rw [if_pos h7] at h3
  refine ⟨Nat.le_refl _, hl, ?_, by rw [List.length_append]; simp; omega⟩
  rw [h3, List.append_assoc]
  congr 2
  have : (s.take (i + 1)).drop (i + 1) = [] := List.drop_of_length_le (by rw [List.length_take]; omega)
  rw [this]
  rfl
 ·rename_i h7
  rw [if_neg h7] at h3
  refine ⟨by omega, hl, ?_, by omega⟩
  rw [h3]
  congr 2
  rw [List.take_succ_eq_append_getElem hl, he, List.drop_append_of_le_length (by rw [List.length_take]; omega)]
end Pth
theorem ref_split (s : List UInt8) (w : World) (hs : s.length ≤ 100000) :
  Calls Try.prog 81 #[.string (mk s), .int .u8 47] w fun e w' => ∃ v, e = .returned v ∧ Cells w' (NewIn w w') v (texts (Pth.split s)) ∧ Below w.heap.size w w' := by
 obtain ⟨i0, hi, hz0, hz1, hz2⟩ := info_parts strInfo
 have ls : (mk s).size = s.length := mk_len s
 have hS : ((mk s).size : Int) ≤ 100000 := by rw [ls]; omega
 have Ls := Lib.hid ls
 clear ls
 generalize hxs : mk s = xs at *
 have Hxs := Lib.hid hxs
 go_enter Try.func81, Try.ntmps81
 go_wp2_with fail
 go_loopw [5, 6, 7] (fun o p i wr => ∃ (D : List (List UInt8)) (at_ k : Nat), p = .int .i64 (at_ : Int) ∧ i = .int .i64 (k : Int) ∧ Pth.Cut s D at_ k ∧ TextsOwn w D o wr) (fun _ _ i _ => s.length - (intOf i).toNat)
 case atStart => exact ⟨[], 0, 0, rfl, rfl, Pth.cut_start s, texts_start w⟩
 case round =>
  obtain ⟨D, p, k, rfl, rfl, hcut, hown⟩ := hrel
  have hk0 : (0 : Int) ≤ (k : Int) := by omega
  have hp0 : (0 : Int) ≤ (p : Int) := by omega
  have hpk : (p : Int) ≤ (k : Int) := by have := hcut.1; omega
  have hks : (k : Int) ≤ (xs.size : Int) := by have := hcut.2.1; have := Ls.out; omega
  have hDl : Hid (D.length ≤ 100000) := Lib.hid (by have := hcut.2.2.2; have := hcut.2.1; omega)
  by_cases hlt : k < s.length
  ·have hk1 : (k : Int) < (xs.size : Int) := by have := Ls.out; omega
   obtain ⟨c, hc, ic⟩ := idx xs k (by have := Ls.out; omega)
   have hsc : s[k]? = some c := by rw [← hc, ← Hxs.out, mk_data]
   have hnext := Pth.cut_next hcut hsc
   by_cases h7 : c.toNat = 47
   ·rw [if_pos h7] at hnext
    have hb1 : ((c.toNat : Int) == 47) = true := by rw [h7]; rfl
    have hext : xs.extract p k = mk ((s.take k).drop p) := by
     rw [← Hxs.out]
     exact bytes_ext (by rw [Lib.extract_data, mk_data, mk_data, List.take_drop, Nat.add_sub_cancel' (by omega)])
    have Hnext := Lib.hid hnext
    have Hown := Lib.hid hown
    have hz := hown.2.size
    have hown1 := hown.1
    clear hc hsc hnext hcut hown h7
    generalize c.toNat = cn at *
    generalize hx1 : mk ((s.take k).drop p) = x1 at *
    have hc1 : ∀ {w1 : World} j u, [Value.string x1][j]? = some u → (w1.alloc (.cells #[.string x1] 9)).cell? ((⟨w1.heap.size, 0, none⟩ : Addr).add j) = some u := by
     intro w1 j u hj
     match j, hj with
     | 0, hj => simp at hj; subst hj; simp [Addr.add]
    go_wp2_with (at_builtin; refine wpList_append_own _ rfl _ _ 126 rfl w.heap.size 9 i0 (.string ⟨#[]⟩) 1 16 Try.underlying126 hi hz0 hz1 hz2 rfl (by decide) _ _ _ rfl (hown1.alloc _) ⟨wr.heap.size, 0, none⟩ 1 1 [.string x1] rfl rfl hc1 ?c2 ?c3 ?c4 ?c5 ?_)
    case c2 => first | rfl | (intro u hu; simp at hu; subst hu; rfl)
    case c3 => have := hDl.out; unfold maxLen; omega
    case c4 => have := hDl.out; omega
    case c5 => first | omega | (simp; omega)
    intro v' w2 hown' hgrow' _
    have hnew := texts_more Hown.out (x := (s.take k).drop p) (v' := v') (by rw [hx1]; simpa using hown') hgrow'
    clear hown' hgrow' hown1
    go_wp2
    go_roundw
    case rel => exact ⟨_, k + 1, k + 1, by go_num, by go_num, Hnext.out, hnew⟩
    case measure => simp [intOf]; omega
   ·rw [if_neg h7] at hnext
    have hb1 : ((c.toNat : Int) == 47) = false := by rw [beq_eq_false_iff_ne]; omega
    have Hnext := Lib.hid hnext
    have Hown := Lib.hid hown
    clear hc hsc hnext hcut hown h7
    generalize c.toNat = cn at *
    go_wp2_with fail
    refine ⟨⟨D, p, k + 1, rfl, rfl, Hnext.out, Hown.out⟩, ?_⟩
    show s.length - ((k : Int) + 1).toNat < s.length - (k : Int).toNat
    omega
  ·obtain rfl : k = s.length := by have := hcut.2.1; omega
   have hfin := Lib.hid (Pth.cut_end hcut)
   have hk1 : ¬ (s.length : Int) < (xs.size : Int) := by have := Ls.out; omega
   have hext : xs.extract p xs.size = mk (s.drop p) := by
    rw [← Hxs.out]
    exact bytes_ext (by rw [Lib.extract_data, mk_data, mk_len, mk_data, ← List.length_drop, List.take_length])
   have hps : (p : Int) ≤ (xs.size : Int) := by omega
   have Hown := Lib.hid hown
   have hz := hown.2.size
   have hown1 := hown.1
   clear hcut hown
   generalize hx1 : mk (s.drop p) = x1 at *
   have hc1 : ∀ {w1 : World} j u, [Value.string x1][j]? = some u → (w1.alloc (.cells #[.string x1] 9)).cell? ((⟨w1.heap.size, 0, none⟩ : Addr).add j) = some u := by
    intro w1 j u hj
    match j, hj with
    | 0, hj => simp at hj; subst hj; simp [Addr.add]
   go_wp2_with (at_builtin; refine wpList_append_own _ rfl _ _ 126 rfl w.heap.size 9 i0 (.string ⟨#[]⟩) 1 16 Try.underlying126 hi hz0 hz1 hz2 rfl (by decide) _ _ _ rfl (hown1.alloc _) ⟨wr.heap.size, 0, none⟩ 1 1 [.string x1] rfl rfl hc1 ?c2 ?c3 ?c4 ?c5 ?_)
   case c2 => first | rfl | (intro u hu; simp at hu; subst hu; rfl)
   case c3 => have := hDl.out; unfold maxLen; omega
   case c4 => have := hDl.out; omega
   case c5 => first | omega | (simp; omega)
   intro v' w2 hown' hgrow' _
   have hnew := texts_more Hown.out (x := s.drop p) (v' := v') (by rw [hx1]; simpa using hown') hgrow'
   clear hown' hgrow' hown1
   go_wp2
   go_ret
   exact ⟨v', rfl, by rw [hfin.out]; exact hnew.cells, hnew.2⟩
open Go.RowKit
theorem char_cases (n : Nat) (h : n < 256) : n = 46 ∨ (97 ≤ n ∧ n ≤ 122) ∨ (48 ≤ n ∧ n ≤ 57) ∨ n = 45 ∨ n = 95 ∨ n < 45 ∨ n = 47 ∨ (57 < n ∧ n < 95) ∨ n = 96 ∨ 122 < n := by omega
theorem ref_name (s : List UInt8) (w : World) (hs : s.length ≤ 100000) :
    Calls Try.prog 82 #[.string (mk s)] w fun e w' => e = .returned (.bool (decide (Pth.Name s))) ∧ Below w.heap.size w w' := by
  have ls : (mk s).size = s.length := mk_len s
  have hS : ((mk s).size : Int) ≤ 100000 := by rw [ls]; omega
  have Ls := Lib.hid ls
  clear ls
  generalize hxs : mk s = xs at *
  have Hxs := Lib.hid hxs
  go_enter Try.func82, Try.ntmps82
  go_wp2_with fail
  go_loopw [3, 4] (fun d i wr => ∃ k : Nat, k ≤ s.length ∧ i = .int .i64 (k : Int) ∧ d = .int .i64 (Pth.dots (s.take k) : Int) ∧ (∀ c ∈ s.take k, Pth.okChar c = true) ∧ Below w.heap.size w wr) (fun _ i _ => s.length - (intOf i).toNat)
  case atStart => exact ⟨0, Nat.zero_le _, rfl, rfl, by simp, Below.refl _ _⟩
  case round =>
    obtain ⟨k, hk, rfl, rfl, hall, hbel⟩ := hrel
    have hk0 : (0 : Int) ≤ (k : Int) := by omega
    have hdk : Pth.dots (s.take k) ≤ k := by
      have := List.countP_le_length (p := fun c : UInt8 => c.toNat == 46) (l := s.take k)
      rw [List.length_take] at this
      unfold Pth.dots; omega
    have Hall := Lib.hid hall
    have Hbel := Lib.hid hbel
    clear hall hbel
    by_cases hlt : k < s.length
    · have hk1 : (k : Int) < (xs.size : Int) := by have := Ls.out; omega
      obtain ⟨c, hc, ic⟩ := idx xs k (by have := Ls.out; omega)
      have hsc : s[k]? = some c := by rw [← hc, ← Hxs.out, mk_data]
      obtain ⟨hl, he⟩ := List.getElem?_eq_some_iff.1 hsc
      have htk : s.take (k + 1) = s.take k ++ [c] := by rw [List.take_succ_eq_append_getElem hl, he]
      have hdn : Hid (Pth.dots (s.take (k + 1)) = Pth.dots (s.take k) + (if c.toNat = 46 then 1 else 0)) := Lib.hid (by
        rw [htk]
        unfold Pth.dots
        rw [List.countP_append, List.countP_singleton]
        by_cases h : c.toNat = 46
        · rw [if_pos h, h]; rfl
        · rw [if_neg h, if_neg (by simpa using h)])
      have hgood : Hid (Pth.okChar c = true → ∀ x ∈ s.take (k + 1), Pth.okChar x = true) := Lib.hid (fun h x hx => by
        rw [htk, List.mem_append] at hx
        rcases hx with hx | hx
        · exact Hall.out x hx
        · rw [List.mem_singleton.1 hx]; exact h)
      have hbad : Hid (Pth.okChar c = false → decide (Pth.Name s) = false) := Lib.hid (fun h => decide_eq_false (fun m => by
        have := m.1 c (List.mem_of_getElem? hsc)
        rw [h] at this; cases this))
      have hok : Hid (Pth.okChar c = ((decide (97 ≤ c.toNat) && decide (c.toNat ≤ 122)) || (decide (48 ≤ c.toNat) && decide (c.toNat ≤ 57)) || c.toNat == 45 || c.toNat == 95 || c.toNat == 46)) := Lib.hid rfl
      have hc256 := c.toNat_lt
      have hd9 : ((Pth.dots (s.take k) : Nat) : Int) ≤ 100000 := by omega
      clear hc hsc htk he hl hdk
      generalize c.toNat = cn at *
      generalize Pth.dots (s.take k) = dk at *
      rcases char_cases cn hc256 with h | h | h | h | h | h | h | h | h | h
      all_goals
        first | (have e46 : ((cn : Int) == 46) = true := by rw [beq_iff_eq]; omega) | (have e46 : ((cn : Int) == 46) = false := by rw [beq_eq_false_iff_ne]; omega)
        first | (have d97 : decide ((97 : Int) ≤ (cn : Int)) = true := decide_eq_true (by omega)) | (have d97 : decide ((97 : Int) ≤ (cn : Int)) = false := decide_eq_false (by omega))
        first | (have d122 : decide ((cn : Int) ≤ 122) = true := decide_eq_true (by omega)) | (have d122 : decide ((cn : Int) ≤ 122) = false := decide_eq_false (by omega))
        first | (have d48 : decide ((48 : Int) ≤ (cn : Int)) = true := decide_eq_true (by omega)) | (have d48 : decide ((48 : Int) ≤ (cn : Int)) = false := decide_eq_false (by omega))
        first | (have d57 : decide ((cn : Int) ≤ 57) = true := decide_eq_true (by omega)) | (have d57 : decide ((cn : Int) ≤ 57) = false := decide_eq_false (by omega))
        first | (have e45 : ((cn : Int) == 45) = true := by rw [beq_iff_eq]; omega) | (have e45 : ((cn : Int) == 45) = false := by rw [beq_eq_false_iff_ne]; omega)
        first | (have e95 : ((cn : Int) == 95) = true := by rw [beq_iff_eq]; omega) | (have e95 : ((cn : Int) == 95) = false := by rw [beq_eq_false_iff_ne]; omega)
        first
          | (have hT : Hid (Pth.okChar c = true) := Lib.hid (by rw [hok.out]; simp; omega))
          | (have hF : Hid (Pth.okChar c = false) := Lib.hid (by rw [hok.out]; simp; omega))
        have HH := Lib.hid h
        clear h
        go_wp2_with fail
        first
          | (go_ret
             exact ⟨by rw [hbad.out hF.out]; rfl, Hbel.out⟩)
          | (refine ⟨⟨k + 1, by omega, rfl, ?_, hgood.out hT.out, Hbel.out⟩, ?_⟩
             · rw [hdn.out]
               first
                 | (rw [if_pos (by have := HH.out; omega)]; rfl)
                 | (rw [if_neg (by have := HH.out; omega)]; rfl)
             · show s.length - ((k : Int) + 1).toNat < s.length - (k : Int).toNat
               omega)
    · obtain rfl : k = s.length := by omega
      rw [List.take_length] at hdk ⊢
      have Hall2 := Lib.hid (show ∀ c ∈ s, Pth.okChar c = true from by have := Hall.out; rw [List.take_length] at this; exact this)
      have hk1 : ¬ (s.length : Int) < (xs.size : Int) := by have := Ls.out; omega
      have hcase : (decide ((1 : Int) ≤ (xs.size : Int)) = false ∧ Hid (decide (Pth.Name s) = false)) ∨ (decide ((1 : Int) ≤ (xs.size : Int)) = true ∧ decide ((xs.size : Int) ≤ 12) = false ∧ Hid (decide (Pth.Name s) = false)) ∨
          (decide ((1 : Int) ≤ (xs.size : Int)) = true ∧ decide ((xs.size : Int) ≤ 12) = true ∧ decide (Pth.dots s < xs.size) = false ∧ Hid (decide (Pth.Name s) = false)) ∨ (decide ((1 : Int) ≤ (xs.size : Int)) = true ∧ decide ((xs.size : Int) ≤ 12) = true ∧ decide (Pth.dots s < xs.size) = true ∧ Hid (decide (Pth.Name s) = true)) := by
        have e := Ls.out
        by_cases h1 : 1 ≤ s.length
        · by_cases h2 : s.length ≤ 12
          · by_cases h3 : Pth.dots s < s.length
            · exact Or.inr (Or.inr (Or.inr ⟨decide_eq_true (by omega), decide_eq_true (by omega), decide_eq_true (by omega), Lib.hid (decide_eq_true ⟨Hall2.out, h1, h2, h3⟩)⟩))
            · exact Or.inr (Or.inr (Or.inl ⟨decide_eq_true (by omega), decide_eq_true (by omega), decide_eq_false (by omega), Lib.hid (decide_eq_false (fun m => h3 m.2.2.2))⟩))
          · exact Or.inr (Or.inl ⟨decide_eq_true (by omega), decide_eq_false (by omega), Lib.hid (decide_eq_false (fun m => h2 m.2.2.1))⟩)
        · exact Or.inl ⟨decide_eq_false (by omega), Lib.hid (decide_eq_false (fun m => h1 m.2.1))⟩
      have hdl : ((Pth.dots s : Nat) : Int) ≤ 100000 := by omega
      clear hdk
      generalize Pth.dots s = dk at *
      rcases hcase with ⟨g1, hf⟩ | ⟨g1, g2, hf⟩ | ⟨g1, g2, g3, hf⟩ | ⟨g1, g2, g3, hf⟩
      all_goals
        go_wp2_with fail
        go_ret
        exact ⟨by rw [hf.out]; rfl, Hbel.out⟩
open Go.RowKit
theorem Pth.splitA_len (s : Tx) : ∀ cur, (splitA cur s).length ≤ s.length + 1 := by
 induction s with
 | nil => intro cur; simp [splitA]
 | cons c s ih =>
  intro cur
  unfold splitA
  split
  ·simp only [List.length_cons]; have := ih []; omega
  ·have := ih (cur ++ [c]); simp only [List.length_cons]; omega
theorem Pth.splitA_small (s : Tx) : ∀ cur, ∀ t ∈ splitA cur s, t.length ≤ cur.length + s.length := by
 induction s with
 | nil => intro cur t ht; simp [splitA] at ht; rw [ht]; simp
 | cons c s ih =>
  intro cur t ht
  unfold splitA at ht
  split at ht
  ·rcases List.mem_cons.1 ht with rfl | ht
   ·omega
   ·have := ih [] t ht; simp only [List.length_cons, List.length_nil] at *; omega
  ·have := ih (cur ++ [c]) t ht
   simp only [List.length_cons, List.length_append, List.length_nil] at *; omega
theorem Pth.split_len (s : Tx) : (split s).length ≤ s.length + 1 := splitA_len s []
theorem Pth.split_small {s t : Tx} (h : t ∈ split s) : t.length ≤ s.length := by have := splitA_small s [] t h; simpa using this
theorem ref_right (s : List UInt8) (w : World) (hs : s.length ≤ 100000) :
  Calls Try.prog 39 #[.string (mk s)] w fun e w' => e = .returned (.bool (decide (Pth.Right s))) ∧ Below w.heap.size w w' := by
 have HS := Lib.hid (ref_split s w hs)
 have HN : Hid (∀ t ∈ Pth.split s, ∀ W, Calls Try.prog 82 #[.string (mk t)] W fun e w' => e = .returned (.bool (decide (Pth.Name t))) ∧ Below W.heap.size W w') :=
  Lib.hid (fun t ht W => ref_name t W (by have := Pth.split_small ht; omega))
 have ls : (mk s).size = s.length := mk_len s
 have hll := Pth.split_len s
 have hR : decide (Pth.Right s) = true ↔ ((∀ t ∈ Pth.split s, Pth.Name t) ∧ s.length ≤ 40 ∧ (Pth.split s).length ≤ 6) := decide_eq_true_iff
 have HR := Lib.hid hR
 clear hR
 have Hlen := Lib.hid ls
 have hS : ((mk s).size : Int) ≤ 100000 := by rw [ls]; omega
 clear ls
 generalize decide (Pth.Right s) = R at *
 generalize Pth.split s = L at *
 generalize mk s = xs at *
 go_enter Try.func39, Try.ntmps39
 go_wp2_with (go_at_call 81; refine HS.out.mono ?_; rintro e w1 ⟨v, rfl, ⟨A, cap, rfl, hcap, hat⟩, hb⟩; rw [texts_len])
 rw [texts_len] at hcap hat
 have Hat := Lib.hid hat
 have Hb := Lib.hid hb
 clear hat hb
 have hL9 : (L.length : Int) ≤ 100001 := by omega
 go_loopw [4] (fun i wr => ∃ k : Nat, k ≤ L.length ∧ i = .int .i64 (k : Int) ∧ (∀ t ∈ L.take k, Pth.Name t) ∧ Below w1.heap.size w1 wr) (fun i _ => L.length - (intOf i).toNat)
 case atStart => exact ⟨0, Nat.zero_le _, rfl, by simp, Below.refl _ _⟩
 case round =>
  obtain ⟨k, hk, rfl, hall, hbel⟩ := hrel
  have Hall := Lib.hid hall
  have Hbel := Lib.hid hbel
  clear hall hbel
  have hk0 : (0 : Int) ≤ (k : Int) := by omega
  by_cases hlt : k < L.length
  ·have hk1 : (k : Int) < (L.length : Int) := by omega
   obtain ⟨ub, uo, rfl, -, hub, huk⟩ := Hat.out (by omega)
   obtain ⟨t, ht⟩ : ∃ t, L[k]? = some t := ⟨_, List.getElem?_eq_getElem hlt⟩
   obtain ⟨hl, he⟩ := List.getElem?_eq_some_iff.1 ht
   have hmem : t ∈ L := List.mem_of_getElem? ht
   have hc1 : wr.cell? ⟨ub, uo + k, none⟩ = some (.string (mk t)) := (Hbel.out.cell (p := ⟨ub, uo + k, none⟩) hub).trans (huk k _ (texts_at ht))
   have HNt := Lib.hid (HN.out t hmem wr)
   have htk : L.take (k + 1) = L.take k ++ [t] := by rw [List.take_succ_eq_append_getElem hl, he]
   clear huk ht he hl
   by_cases hn : Pth.Name t
   ·rw [decide_eq_true hn] at HNt
    have Hnext : Hid (∀ x ∈ L.take (k + 1), Pth.Name x) := Lib.hid (fun x hx => by
     rw [htk, List.mem_append] at hx
     rcases hx with hx | hx
     ·exact Hall.out x hx
     ·rw [List.mem_singleton.1 hx]; exact hn)
    clear hn htk hmem
    generalize mk t = y at *
    go_wp2_with (go_at_call 82; refine HNt.out.mono ?_; rintro e w2 ⟨rfl, hb2⟩)
    refine ⟨⟨k + 1, by omega, rfl, Hnext.out, Hbel.out.trans (hb2.mono Hbel.out.size)⟩, ?_⟩
    show L.length - ((k : Int) + 1).toNat < L.length - (k : Int).toNat
    omega
   ·rw [decide_eq_false hn] at HNt
    have HF : Hid (R = false) := Lib.hid (by
     cases R with
     | false => rfl
     | true => exact absurd ((HR.out.1 rfl).1 t hmem) hn)
    clear hn htk hmem
    generalize mk t = y at *
    go_wp2_with (go_at_call 82; refine HNt.out.mono ?_; rintro e w2 ⟨rfl, hb2⟩)
    go_ret
    exact ⟨by rw [HF.out]; rfl, Hb.out.trans ((Hbel.out.trans (hb2.mono Hbel.out.size)).mono Hb.out.size)⟩
  ·obtain rfl : k = L.length := by omega
   have Hall2 : Hid (∀ t ∈ L, Pth.Name t) := Lib.hid (by have := Hall.out; rw [List.take_length] at this; exact this)
   have hcase : (decide ((xs.size : Int) ≤ 40) = false ∧ Hid (R = false)) ∨ (decide ((xs.size : Int) ≤ 40) = true ∧ decide ((L.length : Int) ≤ 6) = false ∧ Hid (R = false)) ∨ (decide ((xs.size : Int) ≤ 40) = true ∧ decide ((L.length : Int) ≤ 6) = true ∧ Hid (R = true)) := by
    have e := Hlen.out
    by_cases h1 : s.length ≤ 40
    ·by_cases h2 : L.length ≤ 6
     ·exact Or.inr (Or.inr ⟨decide_eq_true (by omega), decide_eq_true (by omega), Lib.hid (HR.out.2 ⟨Hall2.out, h1, h2⟩)⟩)
     ·refine Or.inr (Or.inl ⟨decide_eq_true (by omega), decide_eq_false (by omega), Lib.hid ?_⟩)
      cases R with
      | false => rfl
      | true => exact absurd (HR.out.1 rfl).2.2 h2
    ·refine Or.inl ⟨decide_eq_false (by omega), Lib.hid ?_⟩
     cases R with
     | false => rfl
     | true => exact absurd (HR.out.1 rfl).2.1 h1
   rcases hcase with ⟨g1, hf⟩ | ⟨g1, g2, hf⟩ | ⟨g1, g2, hf⟩
   all_goals
    go_wp2_with fail
    go_ret
    exact ⟨by rw [hf.out]; rfl, Hb.out.trans (Hbel.out.mono Hb.out.size)⟩
end Go.Proofs.Ytkacfmaogiblfaa
namespace Go.Proofs.Ytkacfmaogiblfaa.Sz
def Nm : Int → List Rg → Prop
 | _, [] => True
 | k, r :: l => k ≤ r.1 ∧ r.1 ≤ r.2 ∧ r.2 ≤ 200 ∧ Nm (r.2 + 2) l
def Nmt : Int → List Rg → Int → Prop
 | k, [], m => k ≤ m
 | k, r :: l, m => k ≤ r.1 ∧ r.1 ≤ r.2 ∧ r.2 ≤ 200 ∧ Nmt (r.2 + 2) l m
theorem Nm.mono : ∀ {l : List Rg} {j k : Int}, Nm k l → j ≤ k → Nm j l
 | [], _, _, _, _ => trivial
 | _ :: _, _, _, h, hj => ⟨by have := h.1; omega, h.2⟩
theorem Nmt.append : ∀ {l m : List Rg} {k j : Int}, Nmt k l j → Nm j m → Nm k (l ++ m)
 | [], _, _, _, h, hm => hm.mono h
 | _ :: _, _, _, _, h, hm => ⟨h.1, h.2.1, h.2.2.1, Nmt.append h.2.2.2 hm⟩
theorem Nm.snoc : ∀ {l : List Rg} {q : Rg} {k : Int}, Nm k (l ++ [q]) → Nmt k l q.1 ∧ q.1 ≤ q.2 ∧ q.2 ≤ 200
 | [], q, k, h => ⟨h.1, h.2.1, h.2.2.1⟩
 | r :: l, q, k, h => by
  obtain ⟨h1, h2, h3, h4⟩ := h
  have := Nm.snoc h4
  exact ⟨⟨h1, h2, h3, this.1⟩, this.2⟩
theorem Nm.bd : ∀ {l : List Rg} {k : Int}, Nm k l → ∀ r ∈ l, k ≤ r.1 ∧ r.1 ≤ r.2 ∧ r.2 ≤ 200
 | [], _, _, r, hr => by cases hr
 | q :: l, k, h, r, hr => by
  rcases List.mem_cons.1 hr with e | e
  ·rw [e]; exact ⟨h.1, h.2.1, h.2.2.1⟩
  ·have := Nm.bd h.2.2.2 r e
   have := h.1
   have := h.2.1
   omega
theorem Nm.before {l : List Rg} {k n : Int} (h : Nm k l) (hn : n < k) : holds l n = false := by
 unfold holds
 rw [Bool.and_eq_false_iff]
 right
 rw [List.any_eq_false]
 intro r hr
 have := h.bd r hr
 simp
 omega
theorem holds_append (a b : List Rg) (n : Int) : holds (a ++ b) n = (holds a n || holds b n) := by
 unfold holds
 rw [List.any_append]
 cases decide (0 ≤ n ∧ n ≤ 200) <;> simp
def bits (k d : Nat) (l : List Rg) : List Bool := (List.range' k d).map fun (i : Nat) => holds l (i : Int)
theorem bits_cons (k d : Nat) (l : List Rg) : bits k (d + 1) l = holds l (k : Int) :: bits (k + 1) d l := by
 unfold bits; rw [List.range'_succ, List.map_cons]
theorem of_bits (l : List Rg) : of l = bits 0 201 l := by
 unfold of bits; rw [List.range_eq_range']
theorem bits_past {lo hi : Int} {l : List Rg} : ∀ (d k : Nat), hi < (k : Int) → bits k d ((lo, hi) :: l) = bits k d l := by
 intro d
 induction d with
 | zero => intro k _; rfl
 | succ d ih =>
  intro k hk
  rw [bits_cons, bits_cons, ih (k + 1) (by omega), holds_cons]
  have : decide (((lo, hi) : Rg).1 ≤ (k : Int) ∧ (k : Int) ≤ ((lo, hi) : Rg).2) = false := decide_eq_false (by show ¬ (lo ≤ (k : Int) ∧ (k : Int) ≤ hi); omega)
  rw [this, Bool.and_false, Bool.false_or]
theorem nm_formR : ∀ (d k : Nat), k + d = 201 →
  (∀ l, Nm (k : Int) l → formR k none (bits k d l) = l) ∧
  (∀ (lo : Nat) (hi : Int) (l : List Rg), lo < k → (k : Int) ≤ hi + 1 → hi ≤ 200 → Nm (hi + 2) l → formR k (some lo) (bits k d (((lo : Int), hi) :: l)) = ((lo : Int), hi) :: l) := by
 intro d
 induction d with
 | zero =>
  intro k hk
  refine ⟨fun l h => ?_, fun lo hi l h1 h2 h3 h4 => ?_⟩
  ·cases l with
   | nil => rfl
   | cons r l => exact absurd h.1 (by have := h.2.1; have := h.2.2.1; omega)
  ·have : l = [] := by
    cases l with
    | nil => rfl
    | cons r l => exact absurd h4.1 (by have := h4.2.1; have := h4.2.2.1; omega)
   subst this
   show [((lo : Int), (k : Int) - 1)] = _
   rw [show (k : Int) - 1 = hi by omega]
 | succ d ih =>
  intro k hk
  obtain ⟨ih1, ih2⟩ := ih (k + 1) (by omega)
  refine ⟨fun l h => ?_, fun lo hi l h1 h2 h3 h4 => ?_⟩
  ·rw [bits_cons]
   cases l with
   | nil =>
    rw [holds_nil]
    exact ih1 [] trivial
   | cons r l =>
    obtain ⟨g1, g2, g3, g4⟩ := h
    obtain ⟨r1, r2⟩ := r
    simp only at g1 g2 g3 g4
    by_cases e : (k : Int) = r1
    ·subst e
     have hb : holds (((k : Int), r2) :: l) (k : Int) = true := by
      rw [holds_cons, decide_eq_true (p := 0 ≤ (k : Int) ∧ (k : Int) ≤ 200) (by omega)]
      simp [g2]
     rw [hb]
     exact ih2 k r2 l (by omega) (by omega) g3 g4
    ·have hn : Nm ((k + 1 : Nat) : Int) ((r1, r2) :: l) := ⟨by show ((k + 1 : Nat) : Int) ≤ r1; omega, g2, g3, g4⟩
     rw [hn.before (by omega)]
     exact ih1 _ hn
  ·rw [bits_cons]
   by_cases e : (k : Int) ≤ hi
   ·have hb : holds (((lo : Int), hi) :: l) (k : Int) = true := by
     rw [holds_cons, decide_eq_true (p := 0 ≤ (k : Int) ∧ (k : Int) ≤ 200) (by omega), decide_eq_true (p := (((lo : Int), hi) : Rg).1 ≤ (k : Int) ∧ (k : Int) ≤ (((lo : Int), hi) : Rg).2) (by show (lo : Int) ≤ (k : Int) ∧ (k : Int) ≤ hi; omega)]
     rfl
    rw [hb]
    exact ih2 lo hi l (by omega) (by omega) h3 h4
   ·have e2 : hi = (k : Int) - 1 := by omega
    have hb : holds (((lo : Int), hi) :: l) (k : Int) = false := by
     rw [holds_cons, h4.before (by omega), decide_eq_false (p := (((lo : Int), hi) : Rg).1 ≤ (k : Int) ∧ (k : Int) ≤ (((lo : Int), hi) : Rg).2) (by show ¬ ((lo : Int) ≤ (k : Int) ∧ (k : Int) ≤ hi); omega)]
     simp
    rw [hb, bits_past d (k + 1) (by omega)]
    show ((lo : Int), (k : Int) - 1) :: formR (k + 1) none (bits (k + 1) d l) = _
    rw [ih1 l (h4.mono (by omega)), e2]
theorem nm_form {l : List Rg} (h : Nm 0 l) : form (of l) = l := by
 rw [of_bits]
 exact (nm_formR 201 0 rfl).1 l h
theorem norm_is {l m : List Rg} (h : Nm 0 m) (hs : ∀ n, holds m n = holds l n) : m = norm l := by
 rw [← nm_form h, of_same hs]; rfl
structure Put (S : List Rg) (n : Nat) (out : List Rg) : Prop where
 nm : Nm 0 out
 has : ∀ N, holds out N = holds (S.take n) N
 low : ∀ q, out.getLast? = some q → ∀ m x, n ≤ m → S[m]? = some x → q.1 ≤ x.1
 len : out.length ≤ n
structure Rising (S : List Rg) : Prop where
 bd : ∀ x ∈ S, 0 ≤ x.1 ∧ x.1 ≤ x.2 ∧ x.2 ≤ 200
 up : ∀ (i j : Nat) (x y : Rg), i < j → S[i]? = some x → S[j]? = some y → x.1 ≤ y.1
theorem Put.start (S : List Rg) : Put S 0 [] := ⟨trivial, fun N => rfl, fun q h => (by cases h), Nat.le_refl _⟩
theorem take_holds {S : List Rg} {n : Nat} {r : Rg} (h : S[n]? = some r) (N : Int) : holds (S.take (n + 1)) N = (holds (S.take n) N || (decide (0 ≤ N ∧ N ≤ 200) && decide (r.1 ≤ N ∧ N ≤ r.2))) := by
 obtain ⟨hl, he⟩ := List.getElem?_eq_some_iff.1 h
 rw [List.take_succ_eq_append_getElem hl, he, holds_append, holds_cons, holds_nil, Bool.or_false]
theorem Put.first {S : List Rg} {n : Nat} {r : Rg} (h : Put S n []) (hS : Rising S) (hr : S[n]? = some r) : Put S (n + 1) [r] := by
 have hb := hS.bd r (List.mem_of_getElem? hr)
 refine ⟨⟨hb.1, hb.2.1, hb.2.2, trivial⟩, fun N => ?_, ?_, by simp⟩
 ·rw [take_holds hr, ← h.has N, holds_cons, Bool.or_comm]
 ·rintro q hq m x hm hx
  simp at hq
  subst hq
  exact hS.up n m r x (by omega) hr hx
theorem Put.more {S : List Rg} {n : Nat} {r q : Rg} {out : List Rg} (h : Put S n (out ++ [q])) (hS : Rising S) (hr : S[n]? = some r) (hq : ¬ r.1 ≤ q.2 + 1) : Put S (n + 1) (out ++ [q] ++ [r]) := by
 have hb := hS.bd r (List.mem_of_getElem? hr)
 obtain ⟨s1, s2, s3⟩ := h.nm.snoc
 refine ⟨?_, fun N => ?_, ?_, by have := h.len; rw [List.length_append] at *; simp at *; omega⟩
 ·rw [List.append_assoc]
  exact s1.append ⟨Int.le_refl _, s2, s3, by show q.2 + 2 ≤ r.1; omega, hb.2.1, hb.2.2, trivial⟩
 ·rw [take_holds hr, ← h.has N, holds_append, holds_cons r [], holds_nil, Bool.or_false]
 ·rintro p hp m x hm hx
  simp at hp
  subst hp
  exact hS.up n m r x (by omega) hr hx
theorem Put.on {S : List Rg} {n : Nat} {r q : Rg} {out : List Rg} (h : Put S n (out ++ [q])) (hS : Rising S) (hr : S[n]? = some r) (hq : r.1 ≤ q.2 + 1) : Put S (n + 1) (out ++ [(q.1, max q.2 r.2)]) := by
 have hb := hS.bd r (List.mem_of_getElem? hr)
 obtain ⟨s1, s2, s3⟩ := h.nm.snoc
 have hlow := h.low q (by simp) n r (Nat.le_refl _) hr
 refine ⟨s1.append ⟨Int.le_refl _, by show q.1 ≤ max q.2 r.2; omega, by show max q.2 r.2 ≤ 200; omega, trivial⟩, fun N => ?_, ?_, by have := h.len; rw [List.length_append] at *; simp at *; omega⟩
 ·rw [take_holds hr, ← h.has N, holds_append, holds_append, holds_cons, holds_cons, holds_nil, Bool.or_false, Bool.or_false, Bool.or_assoc, ← Bool.and_or_distrib_left]
  congr 2
  rw [Bool.eq_iff_iff, Bool.or_eq_true, decide_eq_true_eq, decide_eq_true_eq, decide_eq_true_eq]
  simp only
  omega
 ·rintro p hp m x hm hx
  simp at hp
  subst hp
  exact h.low q (by simp) m x (by omega) hx
theorem Put.done {S l out : List Rg} (h : Put S S.length out) (hS : ∀ n, holds S n = holds l n) : out = norm l :=
 norm_is h.nm (fun n => by rw [h.has, List.take_length, hS])
def cutR : Int → Int → List Rg → List Rg × List Rg
 | c, hi, [] => ([], if c ≤ hi then [(c, hi)] else [])
 | c, hi, s :: b => ((if max c s.1 ≤ min hi s.2 then [(max c s.1, min hi s.2)] else []) ++ (cutR (max c (s.2 + 1)) hi b).1, (if c ≤ min hi (s.1 - 1) then [(c, min hi (s.1 - 1))] else []) ++ (cutR (max c (s.2 + 1)) hi b).2)
theorem cutR_len : ∀ (b : List Rg) (c hi : Int), (cutR c hi b).1.length ≤ b.length ∧ (cutR c hi b).2.length ≤ b.length + 1
 | [], c, hi => by
  unfold cutR
  refine ⟨Nat.le_refl _, ?_⟩
  simp only
  split <;> simp
 | s :: b, c, hi => by
  have ih := cutR_len b (max c (s.2 + 1)) hi
  unfold cutR
  simp only [List.length_append, List.length_cons]
  constructor <;> split <;> simp <;> omega
def partIn (b a : List Rg) : List Rg := a.flatMap fun r => (cutR r.1 r.2 b).1
def partOut (b a : List Rg) : List Rg := a.flatMap fun r => (cutR r.1 r.2 b).2
theorem part_len (b : List Rg) : ∀ (a : List Rg), (partIn b a).length ≤ a.length * b.length ∧ (partOut b a).length ≤ a.length * (b.length + 1)
 | [] => by simp [partIn, partOut]
 | r :: a => by
  have ih := part_len b a
  have h := cutR_len b r.1 r.2
  unfold partIn partOut at ih ⊢
  rw [List.flatMap_cons, List.flatMap_cons, List.length_append, List.length_append, List.length_cons, Nat.add_one_mul, Nat.add_one_mul]
  omega
end Go.Proofs.Ytkacfmaogiblfaa.Sz
namespace Go.Proofs.Ytkacfmaogiblfaa
open Go.RowKit
def ext (lo hi : Int) : List Sz.Rg := if lo ≤ hi then [(lo, hi)] else []
open Go.RowKit
theorem str_empty (p : List UInt8) : (mk p).toList.isEmpty = decide (p = []) := by rw [Lib.toList_data, mk_data]; cases p <;> rfl
theorem str_nil (p : List UInt8) : ((mk p).toList == []) = decide (p = []) := by rw [Lib.toList_data, mk_data]; cases p <;> rfl
end Go.Proofs.Ytkacfmaogiblfaa
