import Derived.Test.YtpafpegcodempaaGreatCom30
import Derived.Test.YtpafpegcodempaaGreatCom9
import Derived.Test.YtpafpegcodempaaGreatCom17
import Derived.Shelf.SlicesQ.Equal
import Derived.Shelf.SlicesQ.IndexFunc
import Derived.Laws.StructEq
import Derived.Shelf.Spec.SlicesGrow
set_option maxRecDepth 100000
set_option linter.all false
set_option maxHeartbeats 12800000
namespace Go.Proofs.YtpafpegcodempaaGreat
open Go.RowKit
theorem gb_set (w : World) (p : Addr) (u : Value) : w.grownBy (w.setCell p u) (some p.block) :=
 ⟨rfl, rfl, rfl, by simp [World.setCell], fun k _ hn => Below.heap_setCell w p u k (fun e => hn (by rw [e]))⟩
structure CutAt (W : World) (c hi : Int) (I O : List Sz.Rg) (vi vo : Value) (wr : World) : Prop where
 oi : wr.ownsRow (W.heap.size + 1) 114 2 vi I.length (I.flatMap rgV)
 oo : wr.ownsRow (W.heap.size + 1) 114 2 vo O.length (O.flatMap rgV)
 ap : ∀ g, vi.ownBlock = some g → vo.ownBlock ≠ some g
 row : Row wr W.heap.size 114 #[.int .i64 c, .int .i64 hi]
 bel : Below W.heap.size W wr
 sz : W.heap.size + 1 ≤ wr.heap.size
section
variable {W wr w' : World} {c hi : Int} {I O X : List Sz.Rg} {vi vo v' : Value}
theorem CutAt.start (W : World) (lo hi : Int) : CutAt W lo hi [] [] (.slice none 0 0) (.slice none 0 0) (W.alloc (.cells #[.int .i64 lo, .int .i64 hi] 114)) :=
 ⟨World.ownsRow_nil _ _ _ _, World.ownsRow_nil _ _ _ _, fun g h => (by cases h), Row.made W _ _, (Below.refl _ _).alloc (Nat.le_refl _) _, by simp⟩
theorem CutAt.alloc (h : CutAt W c hi I O vi vo wr) (o : Obj) : CutAt W c hi I O vi vo (wr.alloc o) :=
 ⟨h.oi.alloc o, h.oo.alloc o, h.ap, h.row.behindNew o, h.bel.alloc h.bel.size o, by have := h.sz; simp; omega⟩
theorem CutAt.out (h : CutAt W c hi I O vi vo wr) (ho : w'.ownsRow (W.heap.size + 1) 114 2 v' (O ++ X).length ((O ++ X).flatMap rgV)) (hg : wr.grownBy w' vo.ownBlock) (hn : Near wr vo v') : CutAt W c hi I (O ++ X) vi v' w' := by
 have hne : ∀ k, vo.ownBlock = some k → W.heap.size + 1 ≤ k := fun k hk => (h.oo.lt k hk).1
 exact ⟨own_left h.oi hg h.ap, ho, hn.apart h.ap h.oi (Nat.le_refl _), h.row.grown hg (fun e => by have := hne _ e; omega), h.bel.grown hg h.bel.size (fun k hk => by have := hne k hk; omega), by have := hg.size; have := h.sz; omega⟩
theorem CutAt.in_ (h : CutAt W c hi I O vi vo wr) (ho : w'.ownsRow (W.heap.size + 1) 114 2 v' (I ++ X).length ((I ++ X).flatMap rgV)) (hg : wr.grownBy w' vi.ownBlock) (hn : Near wr vi v') : CutAt W c hi (I ++ X) O v' vo w' := by
 have hne : ∀ k, vi.ownBlock = some k → W.heap.size + 1 ≤ k := fun k hk => (h.oi.lt k hk).1
 have ap2 : ∀ g, vo.ownBlock = some g → vi.ownBlock ≠ some g := fun g h1 h2 => h.ap g h2 h1
 have hap := hn.apart ap2 h.oo (Nat.le_refl _)
 exact ⟨ho, own_left h.oo hg ap2, fun g h1 h2 => hap g h2 h1, h.row.grown hg (fun e => by have := hne _ e; omega), h.bel.grown hg h.bel.size (fun k hk => by have := hne k hk; omega), by have := hg.size; have := h.sz; omega⟩
theorem CutAt.set (h : CutAt W c hi I O vi vo wr) (d : Int) : CutAt W d hi I O vi vo (wr.setCell ⟨W.heap.size, 0, none⟩ (.int .i64 d)) := by
 have hg := gb_set wr ⟨W.heap.size, 0, none⟩ (.int .i64 d)
 refine ⟨own_left h.oi hg (fun g e1 e2 => ?_), own_left h.oo hg (fun g e1 e2 => ?_), h.ap, by simpa using h.row.stored 0 (.int .i64 d), h.bel.grown hg h.bel.size (fun k hk => by injection hk with hk; exact Nat.le_of_eq hk), by simpa [World.setCell] using h.sz⟩
 ·have := (h.oi.lt g e1).1
  injection e2 with e2
  have e3 : W.heap.size = g := e2
  omega
 ·have := (h.oo.lt g e1).1
  injection e2 with e2
  have e3 : W.heap.size = g := e2
  omega
end
theorem cut_step {B : List Sz.Rg} {n : Nat} {s : Sz.Rg} (h : B[n]? = some s) (c hi : Int) : Sz.cutR c hi (B.drop n) =
  (ext (max c s.1) (min hi s.2) ++ (Sz.cutR (max c (s.2 + 1)) hi (B.drop (n + 1))).1, ext c (min hi (s.1 - 1)) ++ (Sz.cutR (max c (s.2 + 1)) hi (B.drop (n + 1))).2) := by
 obtain ⟨hl, he⟩ := List.getElem?_eq_some_iff.1 h
 rw [List.drop_eq_getElem_cons hl, he]
 rfl
theorem sz_cut {W : World} {F : Nat → Prop} {sv : Value} {B : List Sz.Rg} {sb : Nat} (hs : Rgs W F sv B) (hB : B.length ≤ 1000) (hnm : Sz.Nm 0 B) (hcell : W.cell? ⟨sb, 0, none⟩ = some sv) (hsb : sb < W.heap.size) (lo hi : Int) (h0 : 0 ≤ lo) (h1 : lo ≤ 200) (h2 : 0 ≤ hi) (h3 : hi ≤ 200) :
  Calls Tryz.prog 392 #[.agg #[.int .i64 lo, .int .i64 hi], .pointer (some ⟨sb, 0, none⟩)] W fun e w' => ∃ vi vo, e = .returned (.tuple #[vi, vo]) ∧ Rgs w' (NewIn W w') vi (Sz.cutR lo hi B).1 ∧ Rgs w' (NewIn W w') vo (Sz.cutR lo hi B).2 ∧ Below W.heap.size W w' := by
 obtain ⟨A, cap, rfl, hcap⟩ := hs.parts
 have H := Lib.hid hs
 have Hnm := Lib.hid hnm
 have hB' : (B.length : Int) ≤ 1000 := by omega
 clear hs hnm
 go_enter Tryz.func392, Tryz.ntmps392
 have Hst := Lib.hid (CutAt.start W lo hi)
 have hcell0 : (W.alloc (.cells #[.int .i64 lo, .int .i64 hi] 114)).cell? ⟨sb, 0, none⟩ = some (.slice A B.length cap) := (Hst.out.bel.cell (p := ⟨sb, 0, none⟩) hsb).trans hcell
 go_wp2_with fail
 go_loopw [3, 4, 9] (fun vi vo i wr => ∃ (n : Nat) (c : Int) (I O : List Sz.Rg), n ≤ B.length ∧ i = .int .i64 (n : Int) ∧ CutAt W c hi I O vi vo wr ∧ 0 ≤ c ∧ c ≤ 201 ∧ I.length ≤ n ∧ O.length ≤ n ∧ Hid (Sz.cutR lo hi B = (I ++ (Sz.cutR c hi (B.drop n)).1, O ++ (Sz.cutR c hi (B.drop n)).2))) (fun _ _ i _ => B.length - (intOf i).toNat)
 case atStart => exact ⟨0, lo, [], [], Nat.zero_le _, rfl, Hst.out, h0, by omega, Nat.le_refl _, Nat.le_refl _, Lib.hid rfl⟩
 case round =>
  obtain ⟨n, c, I, O, hn, rfl, hat, hc0, hc1, hI, hO, hcut⟩ := hrel
  have q0 : wr.cell? ⟨W.heap.size, 0, none⟩ = some (.int .i64 c) := hat.row.at 0
  have q1 : wr.cell? ⟨W.heap.size, 1, none⟩ = some (.int .i64 hi) := hat.row.at 1
  clear hcell0 Hst
  by_cases hlt : n < B.length
  ·obtain ⟨b, o, cap', e, -, -, hb⟩ := H.out.block (by omega)
   injection e with e1 e2 e3
   subst e1 e3
   obtain ⟨x, hx⟩ : ∃ x, B[n]? = some x := ⟨_, List.getElem?_eq_getElem hlt⟩
   obtain ⟨c0, c1⟩ := Rgs.at (H.out.below (Below.refl _ _)) hx
   have c0 : wr.cell? ⟨b, o + n * 2, none⟩ = some (.int .i64 x.1) := (hat.bel.cell (p := ⟨b, o + n * 2, none⟩) hb).trans c0
   have c1 : wr.cell? ⟨b, o + n * 2 + 1, none⟩ = some (.int .i64 x.2) := (hat.bel.cell (p := ⟨b, o + n * 2 + 1, none⟩) hb).trans c1
   have hxb := Hnm.out.bd x (List.mem_of_getElem? hx)
   have hst := cut_step hx c hi
   have hn0 : (0 : Int) ≤ (n : Int) := by omega
   have hn1 : (n : Int) < (B.length : Int) := by omega
   clear hx
   obtain ⟨x1, x2⟩ := x
   simp only at c0 c1 hxb hst
   obtain ⟨x3, x4, x5⟩ := hxb
   have hcut2 : Hid (Sz.cutR lo hi B = ((I ++ ext (max c x1) (min hi x2)) ++ (Sz.cutR (max c (x2 + 1)) hi (B.drop (n + 1))).1, (O ++ ext c (min hi (x1 - 1))) ++ (Sz.cutR (max c (x2 + 1)) hi (B.drop (n + 1))).2)) := Lib.hid (by
    rw [hcut.out, hst]
    simp only [List.append_assoc])
   have hat2 := hat.alloc (.cells #[.int .i64 x1, .int .i64 x2] 114)
   have hsx := Row.made wr 114 #[.int .i64 x1, .int .i64 x2]
   have hzb : W.heap.size < wr.heap.size := by have := hat.sz; omega
   have HA := Lib.hid (sz_add hat2.oo hat2.sz (by omega) c (min hi (x1 - 1)))
   have hvo : Hid (∀ g, u4.ownBlock = some g → g < wr.heap.size) := Lib.hid (fun g hg => (hat.oo.lt g hg).2)
   have hvi : Hid (∀ g, u3.ownBlock = some g → g < wr.heap.size) := Lib.hid (fun g hg => (hat.oi.lt g hg).2)
   have Hat2 := Lib.hid hat2
   have Hsx := Lib.hid hsx
   clear hat hat2 hcut hst hsx
   go_wp2_with fail
   refine (HA.out).mono ?_
   rintro e w2 ⟨v2, rfl, g1, g2, g3⟩
   have hat3 := Hat2.out.out g1 g2 g3
   have hsx3 := Hsx.out.grown g2 (fun e => by have := hvo.out _ e; omega)
   have q0 : w2.cell? ⟨W.heap.size, 0, none⟩ = some (.int .i64 c) := hat3.row.at 0
   have q1 : w2.cell? ⟨W.heap.size, 1, none⟩ = some (.int .i64 hi) := hat3.row.at 1
   have p0 : w2.cell? ⟨wr.heap.size, 0, none⟩ = some (.int .i64 x1) := hsx3.at 0
   have p1 : w2.cell? ⟨wr.heap.size, 1, none⟩ = some (.int .i64 x2) := hsx3.at 1
   have HA2 := Lib.hid (sz_add hat3.oi hat3.sz (by omega) (max c x1) (min hi x2))
   have Hat3 := Lib.hid hat3
   have Hsx3 := Lib.hid hsx3
   clear hat3 hsx3 g1 g2 g3 HA Hat2 Hsx hvo
   go_wp2_with fail
   refine (HA2.out).mono ?_
   rintro e w3 ⟨v3, rfl, g1, g2, g3⟩
   have hat4 := Hat3.out.in_ g1 g2 g3
   have hsx4 := Hsx3.out.grown g2 (fun e => by have := hvi.out _ e; omega)
   have q0 : w3.cell? ⟨W.heap.size, 0, none⟩ = some (.int .i64 c) := hat4.row.at 0
   have f0 := hat4.row.free 0
   have p1 : w3.cell? ⟨wr.heap.size, 1, none⟩ = some (.int .i64 x2) := hsx4.at 1
   have Hat5 := Lib.hid (hat4.set (max c (x2 + 1)))
   clear hat4 hsx4 g1 g2 g3 HA2 Hat3 Hsx3 hvi
   go_wp2_with fail
   have l1 := ext_len (max c x1) (min hi x2)
   have l2 := ext_len c (min hi (x1 - 1))
   exact ⟨⟨n + 1, max c (x2 + 1), _, _, by omega, by go_num, Hat5.out, by omega, by omega, by rw [List.length_append]; omega, by rw [List.length_append]; omega, hcut2⟩, by show B.length - ((n : Int) + 1).toNat < B.length - (n : Int).toNat; omega⟩
  ·obtain rfl : n = B.length := by omega
   have hcut2 : Hid (Sz.cutR lo hi B = (I, O ++ ext c hi)) := Lib.hid (by
    rw [hcut.out, List.drop_length]
    show (I ++ [], O ++ ext c hi) = _
    rw [List.append_nil])
   have HA := Lib.hid (sz_add hat.oo hat.sz (by omega) c hi)
   have Hat := Lib.hid hat
   clear hat hcut
   go_wp2_with fail
   refine (HA.out).mono ?_
   rintro e w2 ⟨v2, rfl, g1, g2, g3⟩
   have Hat3 := Lib.hid (Hat.out.out g1 g2 g3)
   clear g1 g2 g3 HA Hat
   go_wp2_with fail
   go_ret2
   refine ⟨_, _, rfl, ?_, ?_, Hat3.out.bel⟩
   ·rw [hcut2.out]
    exact Rws.ofOwn Hat3.out.oi rfl (fun _ _ => rfl) (fun b _ h1 h2 => ⟨by omega, h2⟩)
   ·rw [hcut2.out]
    exact Rws.ofOwn Hat3.out.oo rfl (fun _ _ => rfl) (fun b _ h1 h2 => ⟨by omega, h2⟩)
open Go.RowKit
def cutF (sb : Nat) : Value := .func (.func 392) #[] #[.pointer (some ⟨sb, 0, none⟩)]
theorem sz_cutter {w : World} {F : Nat → Prop} {v : Value} {l : List Sz.Rg} (h : Rgs w F v l) (hl : l.length ≤ 1000000) :
  Calls Tryz.prog 358 #[v] w fun e w' => ∃ sb sv, e = .returned (cutF sb) ∧ w'.cell? ⟨sb, 0, none⟩ = some sv ∧ Rgs w' (NewIn w w') sv (Sz.norm l) ∧ sb < w'.heap.size ∧ Below w.heap.size w w' := by
 unfold cutF
 have HN := Lib.hid (sz_norm h hl)
 clear h
 go_enter Tryz.func358, Tryz.ntmps358
 go_wp2_with fail
 refine (HN.out).mono ?_
 rintro e w1 ⟨v1, rfl, h1⟩
 obtain ⟨A, cap, rfl, hcap⟩ := (h1.rows (fun _ _ => rfl)).parts
 have Hend := Lib.hid (h1.rows (fun _ _ => rfl))
 have Hb := Lib.hid h1.2
 clear h1
 go_wp2_with fail
 go_ret
 have hb2 : Below w1.heap.size w1 (w1.alloc (.cells #[.slice A (Sz.norm l).length cap] 154)) := (Below.refl _ _).alloc (Nat.le_refl _) _
 exact ⟨w1.heap.size, _, rfl, (Row.made w1 154 #[.slice A (Sz.norm l).length cap]).at 0, (Hend.out.below hb2).mono (fun i hi => ⟨hi.1, by have := hi.2; simp; omega⟩), by simp, Hb.out.trans (hb2.mono Hb.out.size)⟩
structure PartAt (w : World) (I O : List Sz.Rg) (vi vo : Value) (wr : World) : Prop where
 oi : wr.ownsRow w.heap.size 114 2 vi I.length (I.flatMap rgV)
 oo : wr.ownsRow w.heap.size 114 2 vo O.length (O.flatMap rgV)
 ap : ∀ g, vi.ownBlock = some g → vo.ownBlock ≠ some g
 bel : Below w.heap.size w wr
section
variable {w wr w' : World} {I O X : List Sz.Rg} {vi vo v' : Value}
theorem PartAt.start (w : World) : PartAt w [] [] (.slice none 0 0) (.slice none 0 0) w := ⟨World.ownsRow_nil _ _ _ _, World.ownsRow_nil _ _ _ _, fun g h => (by cases h), Below.refl _ _⟩
theorem PartAt.below (h : PartAt w I O vi vo wr) (hb : Below wr.heap.size wr w') : PartAt w I O vi vo w' := by
 have hg : wr.grownBy w' none := ⟨hb.os, hb.tape, hb.output, hb.size, fun k hk _ => hb.block k hk⟩
 exact ⟨own_left h.oi hg (fun g _ e => by cases e), own_left h.oo hg (fun g _ e => by cases e), h.ap, h.bel.trans (hb.mono h.bel.size)⟩
theorem PartAt.out (h : PartAt w I O vi vo wr) (ho : w'.ownsRow w.heap.size 114 2 v' (O.length + X.length) (O.flatMap rgV ++ X.flatMap rgV)) (hg : wr.grownBy w' vo.ownBlock) (hn : Near wr vo v') : PartAt w I (O ++ X) vi v' w' := by
 have ho2 : w'.ownsRow w.heap.size 114 2 v' (O ++ X).length ((O ++ X).flatMap rgV) := by rw [List.length_append, List.flatMap_append]; exact ho
 exact ⟨own_left h.oi hg h.ap, ho2, hn.apart h.ap h.oi (Nat.le_refl _), h.bel.grown hg h.bel.size (fun k hk => (h.oo.lt k hk).1)⟩
theorem PartAt.in_ (h : PartAt w I O vi vo wr) (ho : w'.ownsRow w.heap.size 114 2 v' (I.length + X.length) (I.flatMap rgV ++ X.flatMap rgV)) (hg : wr.grownBy w' vi.ownBlock) (hn : Near wr vi v') : PartAt w (I ++ X) O v' vo w' := by
 have ho2 : w'.ownsRow w.heap.size 114 2 v' (I ++ X).length ((I ++ X).flatMap rgV) := by rw [List.length_append, List.flatMap_append]; exact ho
 have ap2 : ∀ g, vo.ownBlock = some g → vi.ownBlock ≠ some g := fun g h1 h2 => h.ap g h2 h1
 have hap := hn.apart ap2 h.oo (Nat.le_refl _)
 exact ⟨ho2, own_left h.oo hg ap2, fun g h1 h2 => hap g h2 h1, h.bel.grown hg h.bel.size (fun k hk => (h.oi.lt k hk).1)⟩
end
theorem sz_part {w : World} {F G : Nat → Prop} {u v : Value} {a b : List Sz.Rg} (ha : Rgs w F u a) (hb : Rgs w G v b) (la : a.length ≤ 1000000) (lb : b.length ≤ 1000000) :
  Calls Tryz.prog 297 #[u, v] w fun e w' => ∃ vi vo, e = .returned (.tuple #[vi, vo]) ∧ Rgs w' (NewIn w w') vi (Sz.two 1 a b) ∧ Rgs w' (NewIn w w') vo (Sz.two 2 a b) ∧ Below w.heap.size w w' := by
 obtain ⟨i0, hi0, hz0, hz1, hz2⟩ := info_parts rangeInfo
 have HC := Lib.hid (sz_cutter hb lb)
 have HA := Lib.hid (fun (W : World) (h : Below w.heap.size w W) => sz_norm (ha.below h) la)
 unfold cutF at HC
 clear ha hb
 go_enter Tryz.func297, Tryz.ntmps297
 go_wp2_with fail
 refine (HC.out).mono ?_
 rintro e w1 ⟨sb, sv, rfl, k1, k2, k3, k4⟩
 have Hsv := Lib.hid k2
 have Hcell := Lib.hid k1
 have Hsb := Lib.hid k3
 have Hb1 := Lib.hid k4
 clear k1 k2 k3 k4 HC
 go_wp2_with fail
 refine (HA.out w1 Hb1.out).mono ?_
 rintro e w2 ⟨v2, rfl, h2⟩
 obtain ⟨A, cap, rfl, hcap⟩ := (h2.rows (fun _ _ => rfl)).parts
 have H2 := Lib.hid h2
 have hla : ((Sz.norm a).length : Int) ≤ 202 := by have := Sz.norm_len a; omega
 clear h2 HA
 go_wp2_with fail
 go_loopw [4, 5, 16] (fun vi vo i wr => ∃ n : Nat, n ≤ (Sz.norm a).length ∧ i = .int .i64 (n : Int) ∧ PartAt w2 (Sz.partIn (Sz.norm b) ((Sz.norm a).take n)) (Sz.partOut (Sz.norm b) ((Sz.norm a).take n)) vi vo wr) (fun _ _ i _ => (Sz.norm a).length - (intOf i).toNat)
 case atStart => exact ⟨0, Nat.zero_le _, rfl, PartAt.start w2⟩
 case round =>
  obtain ⟨n, hn, rfl, hat⟩ := hrel
  by_cases hlt : n < (Sz.norm a).length
  ·have HS := H2.out.rows (fun _ _ => rfl)
   obtain ⟨b1, o, cap', e, -, -, hb⟩ := HS.block (by omega)
   injection e with e1 e2 e3
   subst e1 e3
   obtain ⟨x, hx⟩ : ∃ x, (Sz.norm a)[n]? = some x := ⟨_, List.getElem?_eq_getElem hlt⟩
   obtain ⟨c0, c1⟩ := Rgs.at HS hx
   have c0 : wr.cell? ⟨b1, o + n * 2, none⟩ = some (.int .i64 x.1) := (hat.bel.cell (p := ⟨b1, o + n * 2, none⟩) hb).trans c0
   have c1 : wr.cell? ⟨b1, o + n * 2 + 1, none⟩ = some (.int .i64 x.2) := (hat.bel.cell (p := ⟨b1, o + n * 2 + 1, none⟩) hb).trans c1
   have hxb := (Sz.norm_nm a).bd x (List.mem_of_getElem? hx)
   have hst := Lib.hid (Sz.part_take (b := Sz.norm b) hx)
   have hlen := Sz.part_len (Sz.norm b) ((Sz.norm a).take n)
   have hl1 : ((Sz.norm a).take n).length ≤ 202 := by rw [List.length_take]; omega
   have hl2 := Sz.norm_len b
   have hm1 : ((Sz.norm a).take n).length * (Sz.norm b).length ≤ 202 * 202 := Nat.mul_le_mul hl1 hl2
   have hm2 : ((Sz.norm a).take n).length * ((Sz.norm b).length + 1) ≤ 202 * 203 := Nat.mul_le_mul hl1 (by omega)
   have hcl := Sz.cutR_len (Sz.norm b) x.1 x.2
   have hn0 : (0 : Int) ≤ (n : Int) := by omega
   have hn1 : (n : Int) < ((Sz.norm a).length : Int) := by omega
   clear hx HS
   obtain ⟨x1, x2⟩ := x
   simp only at c0 c1 hxb hst hcl
   have hb0 : Below wr.heap.size wr (wr.alloc (.cells #[.int .i64 x1, .int .i64 x2] 114)) := (Below.refl _ _).alloc (Nat.le_refl _) _
   have hat3 := hat.below hb0
   have hs3 : w1.heap.size ≤ (wr.alloc (.cells #[.int .i64 x1, .int .i64 x2] 114)).heap.size := Nat.le_trans H2.out.2.size hat3.bel.size
   have hw13 : Below w1.heap.size w1 (wr.alloc (.cells #[.int .i64 x1, .int .i64 x2] 114)) := H2.out.2.trans (hat3.bel.mono H2.out.2.size)
   have HK := Lib.hid (sz_cut (Hsv.out.below hw13) (by omega) (Sz.norm_nm b) ((hw13.cell (p := ⟨sb, 0, none⟩) Hsb.out).trans Hcell.out) (Nat.lt_of_lt_of_le Hsb.out hw13.size) x1 x2 (by omega) (by omega) (by omega) (by omega))
   have Hat3 := Lib.hid hat3
   have hI : (Sz.partIn (Sz.norm b) ((Sz.norm a).take n)).length ≤ 100000 := by omega
   have hO : (Sz.partOut (Sz.norm b) ((Sz.norm a).take n)).length ≤ 100000 := by omega
   generalize Sz.partIn (Sz.norm b) ((Sz.norm a).take n) = I at *
   generalize Sz.partOut (Sz.norm b) ((Sz.norm a).take n) = O at *
   clear hat hat3 hb0 hs3 hw13 hm1 hm2 hl1
   go_wp2_with fail
   refine (HK.out).mono ?_
   rintro e w4 ⟨vi4, vo4, rfl, g1, g2, g3⟩
   have hat4 := Hat3.out.below g3
   have hlo : ∀ i, u4.ownBlock = some i → i < (wr.alloc (.cells #[.int .i64 x1, .int .i64 x2] 114)).heap.size := fun i e => (Hat3.out.oi.lt i e).2
   have Hlo := Lib.hid hlo
   have hz4 : w2.heap.size ≤ w4.heap.size := hat4.bel.size
   have Hat4 := Lib.hid hat4
   have own4 := hat4.oi
   have G2 := Lib.hid g2
   clear hat4 hlo g2 g3 HK Hat3
   go_wp2_with (at_builtin; refine wp_joins (f := rgV) (k := 2) rfl _ _ 154 rfl w2.heap.size 114 i0 (.agg #[.int .i64 0, .int .i64 0]) 16 Tryz.underlying154 hi0 hz0 hz1 hz2 rfl (by decide) rfl rfl own4 g1 (fun _ _ => rfl) (fun x _ => rg_one x) ?c3 ?c4 hz4 ?_)
   case c3 => unfold maxLen; omega
   case c4 => omega
   intro v5 w5 j1 j2 j3
   have hat5 := Hat4.out.in_ j1 j2 j3
   have g2 := G2.out.kept (Kept.ofGrown (F := fun i => u4.ownBlock = some i) j2 (fun i e => e)) (fun i hi e => by have := Hlo.out i e; have := hi.1; omega)
   have hz5 : w2.heap.size ≤ w5.heap.size := hat5.bel.size
   have Hat5 := Lib.hid hat5
   have own5 := hat5.oo
   clear hat5 j1 j2 j3 Hat4 own4 g1 G2 Hlo
   go_wp2_with (at_builtin; refine wp_joins (f := rgV) (k := 2) rfl _ _ 154 rfl w2.heap.size 114 i0 (.agg #[.int .i64 0, .int .i64 0]) 16 Tryz.underlying154 hi0 hz0 hz1 hz2 rfl (by decide) rfl rfl own5 g2 (fun _ _ => rfl) (fun x _ => rg_one x) ?c3 ?c4 hz5 ?_)
   case c3 => unfold maxLen; omega
   case c4 => omega
   intro v6 w6 j1 j2 j3
   have hat6 := Hat5.out.out j1 j2 j3
   rw [← hst.out.1, ← hst.out.2] at hat6
   have Hat6 := Lib.hid hat6
   clear hat6 j1 j2 j3 Hat5 own5 g2
   go_wp2_with fail
   exact ⟨⟨n + 1, by omega, by go_num, Hat6.out⟩, by show (Sz.norm a).length - ((n : Int) + 1).toNat < (Sz.norm a).length - (n : Int).toNat; omega⟩
  ·obtain rfl : n = (Sz.norm a).length := by omega
   rw [List.take_length, (Sz.part_is a b).1, (Sz.part_is a b).2] at hat
   have Hat := Lib.hid hat
   have hbel : Hid (Below w.heap.size w w2) := Lib.hid (Hb1.out.trans (H2.out.2.mono Hb1.out.size))
   clear hat
   go_wp2_with fail
   go_ret2
   have hz := hbel.out.size
   exact ⟨_, _, rfl, Rws.ofOwn Hat.out.oi rfl (fun _ _ => rfl) (fun b _ h1 h2 => ⟨by omega, h2⟩), Rws.ofOwn Hat.out.oo rfl (fun _ _ => rfl) (fun b _ h1 h2 => ⟨by omega, h2⟩), hbel.out.trans (Hat.out.bel.mono hbel.out.size)⟩
open Go.RowKit Go.Shelf Go.Lib
open Go.RowKit
section
variable {w : World} {F G : Nat → Prop} {u v : Value} {a b l : List Sz.Rg}
theorem sz_meet (ha : Rgs w F u a) (hb : Rgs w G v b) (la : a.length ≤ 1000000) (lb : b.length ≤ 1000000) :
  Calls Tryz.prog 206 #[u, v] w fun e w' => ∃ v', e = .returned v' ∧ Rgs w' (NewIn w w') v' (Sz.two 1 a b) ∧ Below w.heap.size w w' := by
 have HP := Lib.hid (sz_part ha hb la lb)
 clear ha hb
 go_enter Tryz.func206, Tryz.ntmps206
 go_wp2_with fail
 refine (HP.out).mono ?_
 rintro e w1 ⟨vi, vo, rfl, g1, g2, g3⟩
 have G1 := Lib.hid g1
 have G3 := Lib.hid g3
 clear g1 g2 g3
 go_wp2_with fail
 go_ret
 exact ⟨vi, rfl, G1.out, G3.out⟩
theorem sz_minus (ha : Rgs w F u a) (hb : Rgs w G v b) (la : a.length ≤ 1000000) (lb : b.length ≤ 1000000) :
  Calls Tryz.prog 290 #[u, v] w fun e w' => ∃ v', e = .returned v' ∧ Rgs w' (NewIn w w') v' (Sz.two 2 a b) ∧ Below w.heap.size w w' := by
 have HP := Lib.hid (sz_part ha hb la lb)
 clear ha hb
 go_enter Tryz.func290, Tryz.ntmps290
 go_wp2_with fail
 refine (HP.out).mono ?_
 rintro e w1 ⟨vi, vo, rfl, g1, g2, g3⟩
 have G2 := Lib.hid g2
 have G3 := Lib.hid g3
 clear g1 g2 g3
 go_wp2_with fail
 go_ret
 exact ⟨vo, rfl, G2.out, G3.out⟩
end
open Go.RowKit Go.Shelf Go.Lib
theorem sz_grow (n : Nat) (hn : n ≤ 2000000) (w : World) :
  Calls Tryz.prog 416 #[.slice none 0 0, .int .i64 (n : Int)] w fun e w' => ∃ v, e = .returned v ∧ RowsOwn 114 2 rgV w [] v w' := by
 obtain ⟨i0, hi0, hz0, hz1, hz2⟩ := info_parts rangeInfo
 by_cases h0 : n = 0
 ·subst h0
  refine (Any8.slices_Grow_room Tryz.growRg none 0 0 0 w (Nat.le_refl _) (by omega) (by omega) (by omega)).mono ?_
  rintro e w' ⟨rfl, rfl⟩
  exact ⟨_, rfl, RowsOwn.start _ _ _ _⟩
 ·refine (Any8.slices_Grow_grow Tryz.growRg i0 (.agg #[.int .i64 0, .int .i64 0]) hi0 hz0 (by omega) none 0 0 n [] w (Nat.le_refl _) (by omega) (by rw [hz2]; omega) (by omega) (by simp) (fun _ => rfl) (fun a h => by cases h)).mono ?_
  rintro e w' ⟨rfl, rfl⟩
  refine ⟨_, rfl, ?_, ((Below.refl _ w).drew).alloc (Nat.le_refl _) _⟩
  have hG := grownCap_ge w (0 + n) 0 (Tryz.growRg_ren.t 25)
  have hM := grownCap_le_maxLen w (0 + n) 0 (Tryz.growRg_ren.t 25) (by unfold maxLen; omega)
  refine World.ownsRow_made w.drew _ _ (Nat.le_refl _) hM ?_
  have hzc : (Value.agg #[.int .i64 0, .int .i64 0]).cells.size = 2 := rfl
  simp only [Array.size_append, size_zeroCells, hzc, List.size_toArray, List.length_nil]
  omega
theorem sz_concat {w : World} {F G : Nat → Prop} {u v : Value} {a b : List Sz.Rg} {bk : Nat} (ha : Rgs w F u a) (hb : Rgs w G v b) (la : a.length ≤ 500000) (lb : b.length ≤ 500000) (c0 : w.cell? ⟨bk, 0, none⟩ = some u) (c1 : w.cell? ⟨bk, 1, none⟩ = some v) (hk : bk < w.heap.size) :
  Calls Tryz.prog 388 #[.slice (some ⟨bk, 0, none⟩) 2 2] w fun e w' => ∃ v', e = .returned v' ∧ RowsOwn 114 2 rgV w (a ++ b) v' w' := by
 obtain ⟨i0, hi0, hz0, hz1, hz2⟩ := info_parts rangeInfo
 obtain ⟨A, c, rfl, hc⟩ := ha.parts
 obtain ⟨B, d, rfl, hd⟩ := hb.parts
 have HA := Lib.hid ha
 have HB := Lib.hid hb
 have la0 : (a.length : Int) ≤ 500000 := by omega
 have lb0 : (b.length : Int) ≤ 500000 := by omega
 have la1 : (0 : Int) ≤ (a.length : Int) := by omega
 have lb1 : (0 : Int) ≤ (b.length : Int) := by omega
 have HG : Hid (∀ W, Calls Tryz.prog 416 #[.slice none 0 0, .int .i64 ((a.length : Int) + (b.length : Int))] W fun e w' => ∃ v, e = .returned v ∧ RowsOwn 114 2 rgV W [] v w') := Lib.hid (fun W => by
  have := sz_grow (a.length + b.length) (by omega) W
  rwa [Int.natCast_add] at this)
 clear ha hb
 go_enter Tryz.func388, Tryz.ntmps388
 go_wp2_with fail
 refine wp_loop_rounds 3 ?_
 rw [rounds_succ]
 go_wp2_with fail
 rw [rounds_succ]
 go_wp2_with fail
 rw [rounds_succ]
 go_wp2_with fail
 refine (HG.out w).mono ?_
 rintro e w1 ⟨v1, rfl, h1⟩
 have hg1 := HA.out.below h1.2
 have hz1' : w.heap.size ≤ w1.heap.size := h1.2.size
 have e0 : w1.cell? ⟨bk, 0, none⟩ = some (.slice A a.length c) := (h1.2.cell (p := ⟨bk, 0, none⟩) hk).trans c0
 have e1 : w1.cell? ⟨bk, 1, none⟩ = some (.slice B b.length d) := (h1.2.cell (p := ⟨bk, 1, none⟩) hk).trans c1
 have H1 := Lib.hid h1
 have own1 := h1.1
 clear h1 c0 c1
 go_wp2_with fail
 refine wp_loop_rounds 3 ?_
 rw [rounds_succ]
 go_wp2_with (at_builtin; refine wp_joins (f := rgV) (k := 2) rfl _ _ 154 rfl w.heap.size 114 i0 (.agg #[.int .i64 0, .int .i64 0]) 16 Tryz.underlying154 hi0 hz0 hz1 hz2 rfl (by decide) rfl rfl own1 hg1 (fun _ _ => rfl) (fun x _ => rg_one x) ?c3 ?c4 hz1' ?_)
 case c3 => unfold maxLen; first | omega | (simp <;> omega)
 case c4 => first | omega | (simp <;> omega)
 intro v2 w2 j1 j2 j3
 have h2 : RowsOwn 114 2 rgV w a v2 w2 := ⟨by simpa using j1, H1.out.2.grown j2 H1.out.2.size (fun k hk => (H1.out.1.lt k hk).1)⟩
 have hg2 := HB.out.below h2.2
 have hz2' : w.heap.size ≤ w2.heap.size := h2.2.size
 have f1 : w2.cell? ⟨bk, 1, none⟩ = some (.slice B b.length d) := (j2.cell e1 (fun e => by have := (H1.out.1.lt bk e.symm).1; omega))
 have H2 := Lib.hid h2
 have own2 := h2.1
 clear h2 j1 j2 j3 H1 own1 hg1 e0 e1
 go_wp2_with fail
 rw [rounds_succ]
 go_wp2_with (at_builtin; refine wp_joins (f := rgV) (k := 2) rfl _ _ 154 rfl w.heap.size 114 i0 (.agg #[.int .i64 0, .int .i64 0]) 16 Tryz.underlying154 hi0 hz0 hz1 hz2 rfl (by decide) rfl rfl own2 hg2 (fun _ _ => rfl) (fun x _ => rg_one x) ?c3 ?c4 hz2' ?_)
 case c3 => unfold maxLen; first | omega | (simp <;> omega)
 case c4 => first | omega | (simp <;> omega)
 intro v3 w3 j1 j2 j3
 have h3 : RowsOwn 114 2 rgV w (a ++ b) v3 w3 := ⟨by rw [List.length_append, List.flatMap_append]; exact j1, H2.out.2.grown j2 H2.out.2.size (fun k hk => (H2.out.1.lt k hk).1)⟩
 have H3 := Lib.hid h3
 clear h3 j1 j2 j3 H2 own2 hg2 f1
 go_wp2_with fail
 rw [rounds_succ]
 go_wp2_with fail
 go_ret
 exact ⟨v3, rfl, H3.out⟩
theorem sz_join {w : World} {F G : Nat → Prop} {u v : Value} {a b : List Sz.Rg} (ha : Rgs w F u a) (hb : Rgs w G v b) (la : a.length ≤ 500000) (lb : b.length ≤ 500000) :
  Calls Tryz.prog 352 #[u, v] w fun e w' => ∃ v', e = .returned v' ∧ RowsOwn 114 2 rgV w (Sz.two 0 a b) v' w' := by
 obtain ⟨A, c, rfl, hc⟩ := ha.parts
 obtain ⟨B, d, rfl, hd⟩ := hb.parts
 have hb0 : Below w.heap.size w (w.alloc (.cells #[.slice A a.length c, .slice B b.length d] 154)) := (Below.refl _ _).alloc (Nat.le_refl _) _
 have hrow := Row.made w 154 #[.slice A a.length c, .slice B b.length d]
 have HC := Lib.hid (sz_concat (ha.below hb0) (hb.below hb0) la lb (hrow.at 0) (hrow.at 1) (by simp))
 have Hb0 := Lib.hid hb0
 have hfin : Hid (∀ w1 v1, RowsOwn 114 2 rgV (w.alloc (.cells #[.slice A a.length c, .slice B b.length d] 154)) (a ++ b) v1 w1 → Calls Tryz.prog 359 #[v1] w1 fun e w' => ∃ v', e = .returned v' ∧ RowsOwn 114 2 rgV w (Sz.two 0 a b) v' w') := Lib.hid (by
  intro w1 v1 h1
  refine (sz_norm (h1.rows (fun _ _ => rfl)) (by rw [List.length_append]; omega)).mono ?_
  rintro e w' ⟨v', rfl, h2⟩
  rw [Sz.join_is] at h2
  exact ⟨v', rfl, (h2.since h1.2).since Hb0.out⟩)
 clear ha hb hb0 hrow
 go_enter Tryz.func352, Tryz.ntmps352
 go_wp2_with fail
 refine (HC.out).mono ?_
 rintro e w1 ⟨v1, rfl, h1⟩
 have HN := Lib.hid (hfin.out w1 v1 h1)
 clear h1
 go_wp2_with fail
 refine (HN.out).mono ?_
 rintro e w2 ⟨v2, rfl, h2⟩
 have H2 := Lib.hid h2
 clear h2
 go_wp2_with fail
 go_ret
 exact ⟨v2, rfl, H2.out⟩
open Go.RowKit
theorem new_rows {w w' : World} {v : Value} {l : List Sz.Rg} (h : RowsOwn 114 2 rgV w l v w') : Rgs w' (NewIn w w') v l ∧ Below w.heap.size w w' := ⟨h.rows (fun _ _ => rfl), h.2⟩
theorem sizes_ok : SizesOk where
 norm := fun h hl _ => (sz_norm h (by omega)).mono (fun e w' ⟨v', he, hr⟩ => ⟨v', he, new_rows hr⟩)
 join := fun ha hb la lb _ _ => (sz_join ha hb (by omega) (by omega)).mono (fun e w' ⟨v', he, hr⟩ => ⟨v', he, new_rows hr⟩)
 meet := fun ha hb la lb _ _ => sz_meet ha hb (by omega) (by omega)
 minus := fun ha hb la lb _ _ => sz_minus ha hb (by omega) (by omega)
open Go.RowKit
theorem filter_ok : FilterOk where
 check := flt_check
 all := flt_all
 norm := fun h hl _ bf => flt_norm sizes_ok h hl bf
 equal := fun hf hg lf lg => flt_equal hf hg (by omega) (by omega)
end Go.Proofs.YtpafpegcodempaaGreat
