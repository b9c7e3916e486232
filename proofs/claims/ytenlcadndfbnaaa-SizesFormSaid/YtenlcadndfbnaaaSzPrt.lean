/- The landed sizes: a set is parted by another one. -/
import Derived.Test.YtenlcadndfbnaaaSzCut
set_option linter.unusedSimpArgs false
set_option linter.unusedVariables false
namespace Go.Proofs.Ytenlcadndfbnaaa
open Go.RowKit

def cutF (sb : Nat) : Value := .func (.func 37) #[] #[.pointer (some ⟨sb, 0, none⟩)]

set_option maxRecDepth 100000 in
theorem sz_cutter {w : World} {F : Nat → Prop} {v : Value} {l : List Sz.Rg} (h : Rgs w F v l) (hl : l.length ≤ 1000000) :
    Calls Try.prog 33 #[v] w fun e w' => ∃ sb sv, e = .returned (cutF sb) ∧ w'.cell? ⟨sb, 0, none⟩ = some sv ∧ Rgs w' (NewIn w w') sv (Sz.norm l) ∧ sb < w'.heap.size ∧ Below w.heap.size w w' := by
  unfold cutF
  have HN := Lib.hid (sz_norm h hl)
  clear h
  go_enter Try.func33, Try.ntmps33
  go_wp2_with fail
  refine (HN.out).mono ?_
  rintro e w1 ⟨v1, rfl, h1⟩
  obtain ⟨A, cap, rfl, hcap⟩ := (h1.rows (fun _ _ => rfl)).parts
  have Hend := Lib.hid (h1.rows (fun _ _ => rfl))
  have Hb := Lib.hid h1.2
  clear h1
  go_wp2_with fail
  go_ret
  have hb2 : Below w1.heap.size w1 (w1.alloc (.cells #[.slice A (Sz.norm l).length cap] 22)) := (Below.refl _ _).alloc (Nat.le_refl _) _
  exact ⟨w1.heap.size, _, rfl, (Row.made w1 22 #[.slice A (Sz.norm l).length cap]).at 0, (Hend.out.below hb2).mono (fun i hi => ⟨hi.1, by have := hi.2; simp; omega⟩), by simp, Hb.out.trans (hb2.mono Hb.out.size)⟩

/-- While a set is parted. -/
structure PartAt (w : World) (I O : List Sz.Rg) (vi vo : Value) (wr : World) : Prop where
  oi : wr.ownsRow w.heap.size 29 2 vi I.length (I.flatMap rgV)
  oo : wr.ownsRow w.heap.size 29 2 vo O.length (O.flatMap rgV)
  ap : ∀ g, vi.ownBlock = some g → vo.ownBlock ≠ some g
  bel : Below w.heap.size w wr

section
variable {w wr w' : World} {I O X : List Sz.Rg} {vi vo v' : Value}

set_option maxRecDepth 100000 in
theorem PartAt.start (w : World) : PartAt w [] [] (.slice none 0 0) (.slice none 0 0) w := ⟨World.ownsRow_nil _ _ _ _, World.ownsRow_nil _ _ _ _, fun g h => (by cases h), Below.refl _ _⟩
set_option maxRecDepth 100000 in
theorem PartAt.below (h : PartAt w I O vi vo wr) (hb : Below wr.heap.size wr w') : PartAt w I O vi vo w' := by
  have hg : wr.grownBy w' none := ⟨hb.os, hb.tape, hb.output, hb.size, fun k hk _ => hb.block k hk⟩
  exact ⟨own_left h.oi hg (fun g _ e => by cases e), own_left h.oo hg (fun g _ e => by cases e), h.ap, h.bel.trans (hb.mono h.bel.size)⟩
set_option maxRecDepth 100000 in
theorem PartAt.out (h : PartAt w I O vi vo wr) (ho : w'.ownsRow w.heap.size 29 2 v' (O.length + X.length) (O.flatMap rgV ++ X.flatMap rgV)) (hg : wr.grownBy w' vo.ownBlock) (hn : Near wr vo v') : PartAt w I (O ++ X) vi v' w' := by
  have ho2 : w'.ownsRow w.heap.size 29 2 v' (O ++ X).length ((O ++ X).flatMap rgV) := by rw [List.length_append, List.flatMap_append]; exact ho
  exact ⟨own_left h.oi hg h.ap, ho2, hn.apart h.ap h.oi (Nat.le_refl _), h.bel.grown hg h.bel.size (fun k hk => (h.oo.lt k hk).1)⟩
set_option maxRecDepth 100000 in
theorem PartAt.in_ (h : PartAt w I O vi vo wr) (ho : w'.ownsRow w.heap.size 29 2 v' (I.length + X.length) (I.flatMap rgV ++ X.flatMap rgV)) (hg : wr.grownBy w' vi.ownBlock) (hn : Near wr vi v') : PartAt w (I ++ X) O v' vo w' := by
  have ho2 : w'.ownsRow w.heap.size 29 2 v' (I ++ X).length ((I ++ X).flatMap rgV) := by rw [List.length_append, List.flatMap_append]; exact ho
  have ap2 : ∀ g, vo.ownBlock = some g → vi.ownBlock ≠ some g := fun g h1 h2 => h.ap g h2 h1
  have hap := hn.apart ap2 h.oo (Nat.le_refl _)
  exact ⟨ho2, own_left h.oo hg ap2, fun g h1 h2 => hap g h2 h1, h.bel.grown hg h.bel.size (fun k hk => (h.oi.lt k hk).1)⟩
end

set_option maxRecDepth 100000 in
set_option maxHeartbeats 3200000 in
theorem sz_part {w : World} {F G : Nat → Prop} {u v : Value} {a b : List Sz.Rg} (ha : Rgs w F u a) (hb : Rgs w G v b) (la : a.length ≤ 1000000) (lb : b.length ≤ 1000000) :
    Calls Try.prog 25 #[u, v] w fun e w' => ∃ vi vo, e = .returned (.tuple #[vi, vo]) ∧ Rgs w' (NewIn w w') vi (Sz.two 1 a b) ∧ Rgs w' (NewIn w w') vo (Sz.two 2 a b) ∧ Below w.heap.size w w' := by
  obtain ⟨i0, hi0, hz0, hz1, hz2⟩ := info_parts rangeInfo
  have HC := Lib.hid (sz_cutter hb lb)
  have HA := Lib.hid (fun (W : World) (h : Below w.heap.size w W) => sz_norm (ha.below h) la)
  unfold cutF at HC
  clear ha hb
  go_enter Try.func25, Try.ntmps25
  go_wp2_with fail
  refine (HC.out).mono ?_
  rintro e w1 ⟨sb, sv, rfl, k1, k2, k3, k4⟩
  have Hsv := Lib.hid k2
  have Hcell := Lib.hid k1
  have Hsb := Lib.hid k3
  have Hb1 := Lib.hid k4
  clear k1 k2 k3 k4 HC
  go_wp2_with fail
  refine (HA.out w1 Hb1.out).mono ?_
  rintro e w2 ⟨v2, rfl, h2⟩
  obtain ⟨A, cap, rfl, hcap⟩ := (h2.rows (fun _ _ => rfl)).parts
  have H2 := Lib.hid h2
  have hla : ((Sz.norm a).length : Int) ≤ 202 := by have := Sz.norm_len a; omega
  clear h2 HA
  go_wp2_with fail
  go_loopw [4, 5, 16] (fun vi vo i wr => ∃ n : Nat, n ≤ (Sz.norm a).length ∧ i = .int .i64 (n : Int) ∧ PartAt w2 (Sz.partIn (Sz.norm b) ((Sz.norm a).take n)) (Sz.partOut (Sz.norm b) ((Sz.norm a).take n)) vi vo wr) (fun _ _ i _ => (Sz.norm a).length - (intOf i).toNat)
  case atStart => exact ⟨0, Nat.zero_le _, rfl, PartAt.start w2⟩
  case round =>
    obtain ⟨n, hn, rfl, hat⟩ := hrel
    by_cases hlt : n < (Sz.norm a).length
    · have HS := H2.out.rows (fun _ _ => rfl)
      obtain ⟨b1, o, cap', e, -, -, hb⟩ := HS.block (by omega)
      injection e with e1 e2 e3
      subst e1 e3
      obtain ⟨x, hx⟩ : ∃ x, (Sz.norm a)[n]? = some x := ⟨_, List.getElem?_eq_getElem hlt⟩
      obtain ⟨c0, c1⟩ := Rgs.at HS hx
      have c0 : wr.cell? ⟨b1, o + n * 2, none⟩ = some (.int .i64 x.1) := (hat.bel.cell (p := ⟨b1, o + n * 2, none⟩) hb).trans c0
      have c1 : wr.cell? ⟨b1, o + n * 2 + 1, none⟩ = some (.int .i64 x.2) := (hat.bel.cell (p := ⟨b1, o + n * 2 + 1, none⟩) hb).trans c1
      have hxb := (Sz.norm_nm a).bd x (List.mem_of_getElem? hx)
      have hst := Lib.hid (Sz.part_take (b := Sz.norm b) hx)
      have hlen := Sz.part_len (Sz.norm b) ((Sz.norm a).take n)
      have hl1 : ((Sz.norm a).take n).length ≤ 202 := by rw [List.length_take]; omega
      have hl2 := Sz.norm_len b
      have hm1 : ((Sz.norm a).take n).length * (Sz.norm b).length ≤ 202 * 202 := Nat.mul_le_mul hl1 hl2
      have hm2 : ((Sz.norm a).take n).length * ((Sz.norm b).length + 1) ≤ 202 * 203 := Nat.mul_le_mul hl1 (by omega)
      have hcl := Sz.cutR_len (Sz.norm b) x.1 x.2
      have hn0 : (0 : Int) ≤ (n : Int) := by omega
      have hn1 : (n : Int) < ((Sz.norm a).length : Int) := by omega
      clear hx HS
      obtain ⟨x1, x2⟩ := x
      simp only at c0 c1 hxb hst hcl
      have hb0 : Below wr.heap.size wr (wr.alloc (.cells #[.int .i64 x1, .int .i64 x2] 29)) := (Below.refl _ _).alloc (Nat.le_refl _) _
      have hat3 := hat.below hb0
      have hs3 : w1.heap.size ≤ (wr.alloc (.cells #[.int .i64 x1, .int .i64 x2] 29)).heap.size := Nat.le_trans H2.out.2.size hat3.bel.size
      have hw13 : Below w1.heap.size w1 (wr.alloc (.cells #[.int .i64 x1, .int .i64 x2] 29)) := H2.out.2.trans (hat3.bel.mono H2.out.2.size)
      have HK := Lib.hid (sz_cut (Hsv.out.below hw13) (by omega) (Sz.norm_nm b) ((hw13.cell (p := ⟨sb, 0, none⟩) Hsb.out).trans Hcell.out) (Nat.lt_of_lt_of_le Hsb.out hw13.size) x1 x2 (by omega) (by omega) (by omega) (by omega))
      have Hat3 := Lib.hid hat3
      have hI : (Sz.partIn (Sz.norm b) ((Sz.norm a).take n)).length ≤ 100000 := by omega
      have hO : (Sz.partOut (Sz.norm b) ((Sz.norm a).take n)).length ≤ 100000 := by omega
      generalize Sz.partIn (Sz.norm b) ((Sz.norm a).take n) = I at *
      generalize Sz.partOut (Sz.norm b) ((Sz.norm a).take n) = O at *
      clear hat hat3 hb0 hs3 hw13 hm1 hm2 hl1
      go_wp2_with fail
      refine (HK.out).mono ?_
      rintro e w4 ⟨vi4, vo4, rfl, g1, g2, g3⟩
      have hat4 := Hat3.out.below g3
      have hlo : ∀ i, u4.ownBlock = some i → i < (wr.alloc (.cells #[.int .i64 x1, .int .i64 x2] 29)).heap.size := fun i e => (Hat3.out.oi.lt i e).2
      have Hlo := Lib.hid hlo
      have hz4 : w2.heap.size ≤ w4.heap.size := hat4.bel.size
      have Hat4 := Lib.hid hat4
      have own4 := hat4.oi
      have G2 := Lib.hid g2
      clear hat4 hlo g2 g3 HK Hat3
      go_wp2_with (at_builtin; refine wp_joins (f := rgV) (k := 2) rfl _ _ 22 rfl w2.heap.size 29 i0 (.agg #[.int .i64 0, .int .i64 0]) 16 Try.underlying22 hi0 hz0 hz1 hz2 rfl (by decide) rfl rfl own4 g1 (fun _ _ => rfl) (fun x _ => rg_one x) ?c3 ?c4 hz4 ?_)
      case c3 => unfold maxLen; omega
      case c4 => omega
      intro v5 w5 j1 j2 j3
      have hat5 := Hat4.out.in_ j1 j2 j3
      have g2 := G2.out.kept (Kept.ofGrown (F := fun i => u4.ownBlock = some i) j2 (fun i e => e)) (fun i hi e => by have := Hlo.out i e; have := hi.1; omega)
      have hz5 : w2.heap.size ≤ w5.heap.size := hat5.bel.size
      have Hat5 := Lib.hid hat5
      have own5 := hat5.oo
      clear hat5 j1 j2 j3 Hat4 own4 g1 G2 Hlo
      go_wp2_with (at_builtin; refine wp_joins (f := rgV) (k := 2) rfl _ _ 22 rfl w2.heap.size 29 i0 (.agg #[.int .i64 0, .int .i64 0]) 16 Try.underlying22 hi0 hz0 hz1 hz2 rfl (by decide) rfl rfl own5 g2 (fun _ _ => rfl) (fun x _ => rg_one x) ?c3 ?c4 hz5 ?_)
      case c3 => unfold maxLen; omega
      case c4 => omega
      intro v6 w6 j1 j2 j3
      have hat6 := Hat5.out.out j1 j2 j3
      rw [← hst.out.1, ← hst.out.2] at hat6
      have Hat6 := Lib.hid hat6
      clear hat6 j1 j2 j3 Hat5 own5 g2
      go_wp2_with fail
      exact ⟨⟨n + 1, by omega, by go_num, Hat6.out⟩, by show (Sz.norm a).length - ((n : Int) + 1).toNat < (Sz.norm a).length - (n : Int).toNat; omega⟩
    · obtain rfl : n = (Sz.norm a).length := by omega
      rw [List.take_length, (Sz.part_is a b).1, (Sz.part_is a b).2] at hat
      have Hat := Lib.hid hat
      have hbel : Hid (Below w.heap.size w w2) := Lib.hid (Hb1.out.trans (H2.out.2.mono Hb1.out.size))
      clear hat
      go_wp2_with fail
      go_ret2
      have hz := hbel.out.size
      exact ⟨_, _, rfl, Rws.ofOwn Hat.out.oi rfl (fun _ _ => rfl) (fun b _ h1 h2 => ⟨by omega, h2⟩), Rws.ofOwn Hat.out.oo rfl (fun _ _ => rfl) (fun b _ h1 h2 => ⟨by omega, h2⟩), hbel.out.trans (Hat.out.bel.mono hbel.out.size)⟩
end Go.Proofs.Ytenlcadndfbnaaa
