/- The landed sizes: a range is cut into what a set has of it, and what it does not have. -/
import Derived.Test.YtenlcadndfbnaaaSzNrm
set_option linter.unusedSimpArgs false
set_option linter.unusedVariables false
namespace Go.Proofs.Ytenlcadndfbnaaa
open Go.RowKit

set_option maxRecDepth 100000 in
theorem gb_set (w : World) (p : Addr) (u : Value) : w.grownBy (w.setCell p u) (some p.block) :=
  ⟨rfl, rfl, rfl, by simp [World.setCell], fun k _ hn => Below.heap_setCell w p u k (fun e => hn (by rw [e]))⟩

/-- While a range is cut: its own box, and what was put apart. -/
structure CutAt (W : World) (c hi : Int) (I O : List Sz.Rg) (vi vo : Value) (wr : World) : Prop where
  oi : wr.ownsRow (W.heap.size + 1) 29 2 vi I.length (I.flatMap rgV)
  oo : wr.ownsRow (W.heap.size + 1) 29 2 vo O.length (O.flatMap rgV)
  ap : ∀ g, vi.ownBlock = some g → vo.ownBlock ≠ some g
  row : Row wr W.heap.size 29 #[.int .i64 c, .int .i64 hi]
  bel : Below W.heap.size W wr
  sz : W.heap.size + 1 ≤ wr.heap.size

section
variable {W wr w' : World} {c hi : Int} {I O X : List Sz.Rg} {vi vo v' : Value}

set_option maxRecDepth 100000 in
theorem CutAt.start (W : World) (lo hi : Int) : CutAt W lo hi [] [] (.slice none 0 0) (.slice none 0 0) (W.alloc (.cells #[.int .i64 lo, .int .i64 hi] 29)) :=
  ⟨World.ownsRow_nil _ _ _ _, World.ownsRow_nil _ _ _ _, fun g h => (by cases h), Row.made W _ _, (Below.refl _ _).alloc (Nat.le_refl _) _, by simp⟩
set_option maxRecDepth 100000 in
theorem CutAt.alloc (h : CutAt W c hi I O vi vo wr) (o : Obj) : CutAt W c hi I O vi vo (wr.alloc o) :=
  ⟨h.oi.alloc o, h.oo.alloc o, h.ap, h.row.behindNew o, h.bel.alloc h.bel.size o, by have := h.sz; simp; omega⟩
set_option maxRecDepth 100000 in
theorem CutAt.out (h : CutAt W c hi I O vi vo wr) (ho : w'.ownsRow (W.heap.size + 1) 29 2 v' (O ++ X).length ((O ++ X).flatMap rgV)) (hg : wr.grownBy w' vo.ownBlock) (hn : Near wr vo v') : CutAt W c hi I (O ++ X) vi v' w' := by
  have hne : ∀ k, vo.ownBlock = some k → W.heap.size + 1 ≤ k := fun k hk => (h.oo.lt k hk).1
  exact ⟨own_left h.oi hg h.ap, ho, hn.apart h.ap h.oi (Nat.le_refl _), h.row.grown hg (fun e => by have := hne _ e; omega), h.bel.grown hg h.bel.size (fun k hk => by have := hne k hk; omega), by have := hg.size; have := h.sz; omega⟩
set_option maxRecDepth 100000 in
theorem CutAt.in_ (h : CutAt W c hi I O vi vo wr) (ho : w'.ownsRow (W.heap.size + 1) 29 2 v' (I ++ X).length ((I ++ X).flatMap rgV)) (hg : wr.grownBy w' vi.ownBlock) (hn : Near wr vi v') : CutAt W c hi (I ++ X) O v' vo w' := by
  have hne : ∀ k, vi.ownBlock = some k → W.heap.size + 1 ≤ k := fun k hk => (h.oi.lt k hk).1
  have ap2 : ∀ g, vo.ownBlock = some g → vi.ownBlock ≠ some g := fun g h1 h2 => h.ap g h2 h1
  have hap := hn.apart ap2 h.oo (Nat.le_refl _)
  exact ⟨ho, own_left h.oo hg ap2, fun g h1 h2 => hap g h2 h1, h.row.grown hg (fun e => by have := hne _ e; omega), h.bel.grown hg h.bel.size (fun k hk => by have := hne k hk; omega), by have := hg.size; have := h.sz; omega⟩
set_option maxRecDepth 100000 in
theorem CutAt.set (h : CutAt W c hi I O vi vo wr) (d : Int) : CutAt W d hi I O vi vo (wr.setCell ⟨W.heap.size, 0, none⟩ (.int .i64 d)) := by
  have hg := gb_set wr ⟨W.heap.size, 0, none⟩ (.int .i64 d)
  refine ⟨own_left h.oi hg (fun g e1 e2 => ?_), own_left h.oo hg (fun g e1 e2 => ?_), h.ap, by simpa using h.row.stored 0 (.int .i64 d), h.bel.grown hg h.bel.size (fun k hk => by injection hk with hk; exact Nat.le_of_eq hk), by simpa [World.setCell] using h.sz⟩
  · have := (h.oi.lt g e1).1
    injection e2 with e2
    have e3 : W.heap.size = g := e2
    omega
  · have := (h.oo.lt g e1).1
    injection e2 with e2
    have e3 : W.heap.size = g := e2
    omega
end

set_option maxRecDepth 100000 in
theorem cut_step {B : List Sz.Rg} {n : Nat} {s : Sz.Rg} (h : B[n]? = some s) (c hi : Int) : Sz.cutR c hi (B.drop n) =
    (ext (max c s.1) (min hi s.2) ++ (Sz.cutR (max c (s.2 + 1)) hi (B.drop (n + 1))).1, ext c (min hi (s.1 - 1)) ++ (Sz.cutR (max c (s.2 + 1)) hi (B.drop (n + 1))).2) := by
  obtain ⟨hl, he⟩ := List.getElem?_eq_some_iff.1 h
  rw [List.drop_eq_getElem_cons hl, he]
  rfl

set_option maxRecDepth 100000 in
set_option maxHeartbeats 3200000 in
theorem sz_cut {W : World} {F : Nat → Prop} {sv : Value} {B : List Sz.Rg} {sb : Nat} (hs : Rgs W F sv B) (hB : B.length ≤ 1000) (hnm : Sz.Nm 0 B) (hcell : W.cell? ⟨sb, 0, none⟩ = some sv) (hsb : sb < W.heap.size) (lo hi : Int) (h0 : 0 ≤ lo) (h1 : lo ≤ 200) (h2 : 0 ≤ hi) (h3 : hi ≤ 200) :
    Calls Try.prog 37 #[.agg #[.int .i64 lo, .int .i64 hi], .pointer (some ⟨sb, 0, none⟩)] W fun e w' => ∃ vi vo, e = .returned (.tuple #[vi, vo]) ∧ Rgs w' (NewIn W w') vi (Sz.cutR lo hi B).1 ∧ Rgs w' (NewIn W w') vo (Sz.cutR lo hi B).2 ∧ Below W.heap.size W w' := by
  obtain ⟨A, cap, rfl, hcap⟩ := hs.parts
  have H := Lib.hid hs
  have Hnm := Lib.hid hnm
  have hB' : (B.length : Int) ≤ 1000 := by omega
  clear hs hnm
  go_enter Try.func37, Try.ntmps37
  have Hst := Lib.hid (CutAt.start W lo hi)
  have hcell0 : (W.alloc (.cells #[.int .i64 lo, .int .i64 hi] 29)).cell? ⟨sb, 0, none⟩ = some (.slice A B.length cap) := (Hst.out.bel.cell (p := ⟨sb, 0, none⟩) hsb).trans hcell
  go_wp2_with fail
  go_loopw [3, 4, 9] (fun vi vo i wr => ∃ (n : Nat) (c : Int) (I O : List Sz.Rg), n ≤ B.length ∧ i = .int .i64 (n : Int) ∧ CutAt W c hi I O vi vo wr ∧ 0 ≤ c ∧ c ≤ 201 ∧ I.length ≤ n ∧ O.length ≤ n ∧ Hid (Sz.cutR lo hi B = (I ++ (Sz.cutR c hi (B.drop n)).1, O ++ (Sz.cutR c hi (B.drop n)).2))) (fun _ _ i _ => B.length - (intOf i).toNat)
  case atStart => exact ⟨0, lo, [], [], Nat.zero_le _, rfl, Hst.out, h0, by omega, Nat.le_refl _, Nat.le_refl _, Lib.hid rfl⟩
  case round =>
    obtain ⟨n, c, I, O, hn, rfl, hat, hc0, hc1, hI, hO, hcut⟩ := hrel
    have q0 : wr.cell? ⟨W.heap.size, 0, none⟩ = some (.int .i64 c) := hat.row.at 0
    have q1 : wr.cell? ⟨W.heap.size, 1, none⟩ = some (.int .i64 hi) := hat.row.at 1
    clear hcell0 Hst
    by_cases hlt : n < B.length
    · obtain ⟨b, o, cap', e, -, -, hb⟩ := H.out.block (by omega)
      injection e with e1 e2 e3
      subst e1 e3
      obtain ⟨x, hx⟩ : ∃ x, B[n]? = some x := ⟨_, List.getElem?_eq_getElem hlt⟩
      obtain ⟨c0, c1⟩ := Rgs.at (H.out.below (Below.refl _ _)) hx
      have c0 : wr.cell? ⟨b, o + n * 2, none⟩ = some (.int .i64 x.1) := (hat.bel.cell (p := ⟨b, o + n * 2, none⟩) hb).trans c0
      have c1 : wr.cell? ⟨b, o + n * 2 + 1, none⟩ = some (.int .i64 x.2) := (hat.bel.cell (p := ⟨b, o + n * 2 + 1, none⟩) hb).trans c1
      have hxb := Hnm.out.bd x (List.mem_of_getElem? hx)
      have hst := cut_step hx c hi
      have hn0 : (0 : Int) ≤ (n : Int) := by omega
      have hn1 : (n : Int) < (B.length : Int) := by omega
      clear hx
      obtain ⟨x1, x2⟩ := x
      simp only at c0 c1 hxb hst
      obtain ⟨x3, x4, x5⟩ := hxb
      have hcut2 : Hid (Sz.cutR lo hi B = ((I ++ ext (max c x1) (min hi x2)) ++ (Sz.cutR (max c (x2 + 1)) hi (B.drop (n + 1))).1, (O ++ ext c (min hi (x1 - 1))) ++ (Sz.cutR (max c (x2 + 1)) hi (B.drop (n + 1))).2)) := Lib.hid (by
        rw [hcut.out, hst]
        simp only [List.append_assoc])
      have hat2 := hat.alloc (.cells #[.int .i64 x1, .int .i64 x2] 29)
      have hsx := Row.made wr 29 #[.int .i64 x1, .int .i64 x2]
      have hzb : W.heap.size < wr.heap.size := by have := hat.sz; omega
      have HA := Lib.hid (sz_add hat2.oo hat2.sz (by omega) c (min hi (x1 - 1)))
      have hvo : Hid (∀ g, u4.ownBlock = some g → g < wr.heap.size) := Lib.hid (fun g hg => (hat.oo.lt g hg).2)
      have hvi : Hid (∀ g, u3.ownBlock = some g → g < wr.heap.size) := Lib.hid (fun g hg => (hat.oi.lt g hg).2)
      have Hat2 := Lib.hid hat2
      have Hsx := Lib.hid hsx
      clear hat hat2 hcut hst hsx
      go_wp2_with fail
      refine (HA.out).mono ?_
      rintro e w2 ⟨v2, rfl, g1, g2, g3⟩
      have hat3 := Hat2.out.out g1 g2 g3
      have hsx3 := Hsx.out.grown g2 (fun e => by have := hvo.out _ e; omega)
      have q0 : w2.cell? ⟨W.heap.size, 0, none⟩ = some (.int .i64 c) := hat3.row.at 0
      have q1 : w2.cell? ⟨W.heap.size, 1, none⟩ = some (.int .i64 hi) := hat3.row.at 1
      have p0 : w2.cell? ⟨wr.heap.size, 0, none⟩ = some (.int .i64 x1) := hsx3.at 0
      have p1 : w2.cell? ⟨wr.heap.size, 1, none⟩ = some (.int .i64 x2) := hsx3.at 1
      have HA2 := Lib.hid (sz_add hat3.oi hat3.sz (by omega) (max c x1) (min hi x2))
      have Hat3 := Lib.hid hat3
      have Hsx3 := Lib.hid hsx3
      clear hat3 hsx3 g1 g2 g3 HA Hat2 Hsx hvo
      go_wp2_with fail
      refine (HA2.out).mono ?_
      rintro e w3 ⟨v3, rfl, g1, g2, g3⟩
      have hat4 := Hat3.out.in_ g1 g2 g3
      have hsx4 := Hsx3.out.grown g2 (fun e => by have := hvi.out _ e; omega)
      have q0 : w3.cell? ⟨W.heap.size, 0, none⟩ = some (.int .i64 c) := hat4.row.at 0
      have f0 := hat4.row.free 0
      have p1 : w3.cell? ⟨wr.heap.size, 1, none⟩ = some (.int .i64 x2) := hsx4.at 1
      have Hat5 := Lib.hid (hat4.set (max c (x2 + 1)))
      clear hat4 hsx4 g1 g2 g3 HA2 Hat3 Hsx3 hvi
      go_wp2_with fail
      have l1 := ext_len (max c x1) (min hi x2)
      have l2 := ext_len c (min hi (x1 - 1))
      exact ⟨⟨n + 1, max c (x2 + 1), _, _, by omega, by go_num, Hat5.out, by omega, by omega, by rw [List.length_append]; omega, by rw [List.length_append]; omega, hcut2⟩, by show B.length - ((n : Int) + 1).toNat < B.length - (n : Int).toNat; omega⟩
    · obtain rfl : n = B.length := by omega
      have hcut2 : Hid (Sz.cutR lo hi B = (I, O ++ ext c hi)) := Lib.hid (by
        rw [hcut.out, List.drop_length]
        show (I ++ [], O ++ ext c hi) = _
        rw [List.append_nil])
      have HA := Lib.hid (sz_add hat.oo hat.sz (by omega) c hi)
      have Hat := Lib.hid hat
      clear hat hcut
      go_wp2_with fail
      refine (HA.out).mono ?_
      rintro e w2 ⟨v2, rfl, g1, g2, g3⟩
      have Hat3 := Lib.hid (Hat.out.out g1 g2 g3)
      clear g1 g2 g3 HA Hat
      go_wp2_with fail
      go_ret2
      refine ⟨_, _, rfl, ?_, ?_, Hat3.out.bel⟩
      · rw [hcut2.out]
        exact Rws.ofOwn Hat3.out.oi rfl (fun _ _ => rfl) (fun b _ h1 h2 => ⟨by omega, h2⟩)
      · rw [hcut2.out]
        exact Rws.ofOwn Hat3.out.oo rfl (fun _ _ => rfl) (fun b _ h1 h2 => ⟨by omega, h2⟩)
end Go.Proofs.Ytenlcadndfbnaaa
