import Derived.Test.YtgpeobmaneponaaCom6
import Derived.Test.YtgpeobmaneponaaCom8
import Derived.Test.YtgpeobmaneponaaCom9
import Derived.Test.YtgpeobmaneponaaCom7
set_option maxRecDepth 100000
set_option linter.unusedVariables false
set_option linter.unusedSimpArgs false
set_option maxHeartbeats 12800000
namespace Go.Proofs.Ytgpeobmaneponaa
open List renaming getElem_toArray → z1, getElem_cons_zero → z2, getElem_cons_succ → z3, setIfInBounds_toArray → z4, set_cons_zero → z5, set_cons_succ → z6
open Go.RowKit Go.Sort
theorem up_item_lies {w : World} {b o : Nat} {u : Upd.U} (h : w.rangeAt b o (upV u)) : Lies 23 w b o (verV u.item) :=
 ⟨fun j v hv => h j v (by match j, hv with | 0, hv => exact hv | 1, hv => exact hv), ⟨_, Try.underlying23, rfl⟩, by kernel_rfl⟩
theorem up_stp_lies {w : World} {b o : Nat} {u : Upd.U} (h : w.rangeAt b o (upV u)) : Lies 25 w b (o + 2) (stpV u.stamp) :=
 ⟨fun j v hv => by
  rw [Nat.add_assoc]
  exact h (2 + j) v (by match j, hv with | 0, hv => exact hv | 1, hv => exact hv | 2, hv => exact hv), ⟨_, Try.underlying25, rfl⟩, by kernel_rfl⟩
theorem ref_umatch {w : World} {F : Nat → Prop} {v : Value} {f : List Flt.Cl} (u : Upd.U) (h : Cls w F v f) (hl : f.length ≤ 1000000) (hs : ∀ c ∈ f, c.pre.length ≤ 100000) (hp : u.path.length ≤ 9223372036854775807) :
  Calls Try.prog 16 #[v, upA u] w fun e w' => e = .returned (.bool (Upd.hit f u)) ∧ Below w.heap.size w w' := by
 obtain ⟨A, cap, rfl, -⟩ := h.parts
 have MA := Lib.hid (fun (W : World) (hW : Below w.heap.size w W) => ref_fmatch u.path (u.data.length : Int) u.dead (Rws.below h hW) hl hp hs)
 rw [show Upd.hit f u = Flt.hits f u.path (u.data.length : Int) u.dead from rfl]
 generalize Flt.hits f u.path (u.data.length : Int) u.dead = E at *
 generalize f.length = fl at *
 clear hl hs hp h
 obtain ⟨⟨i1, i2⟩, ⟨t, ⟨v1, v2⟩⟩, p, d, dd⟩ := u
 dsimp only [upA, fileV] at MA ⊢
 obtain ⟨n, hn⟩ : ∃ n : Int, n = (d.length : Int) := ⟨_, rfl⟩
 have hsz : ((mk d).size : Int) = n := by rw [mk_len, hn]
 rw [← hn] at MA
 generalize mk d = y at *
 generalize mk p = x at *
 clear hn
 have hb : Below w.heap.size w (w.alloc (.cells #[.int .i64 i1, .int .i64 i2, .int .i64 v1, .int .i64 v2, .int .i64 t, .string x, .string y, .bool dd] 27)) := (Below.refl _ _).alloc (Nat.le_refl _) _
 have HB := Lib.hid hb
 clear hb
 go_enter Try.func16, Try.ntmps16
 go_wp2_with fail
 refine (MA.out _ HB.out).mono ?_
 rintro e w2 ⟨rfl, b2⟩
 have B2 := Lib.hid (HB.out.trans (b2.mono HB.out.size))
 clear b2
 go_wp2_with fail
 go_ret
 exact ⟨rfl, B2.out⟩
def Upd.light (u : Upd.U) : Prop := u.path.length < 200 ∧ u.data.length < 400
instance Upd.lightDec (u : Upd.U) : Decidable (Upd.light u) := inferInstanceAs (Decidable (_ ∧ _))
theorem ulight_any (u : Upd.U) (w : World) : Calls Try.prog 7 #[upA u] w fun e w' => e = .returned (.bool (decide (Upd.light u))) ∧ Below w.heap.size w w' := by
 have hE : Hid (decide (Upd.light u) = (decide (u.path.length < 200) && decide (u.data.length < 400))) := Lib.hid (by rw [Bool.eq_iff_iff, decide_eq_true_iff]; simp [Upd.light])
 generalize decide (Upd.light u) = E at *
 obtain ⟨⟨i1, i2⟩, ⟨t, ⟨v1, v2⟩⟩, p, d, dd⟩ := u
 dsimp only [upA] at *
 have lp := mk_len p
 have ld := mk_len d
 generalize mk d = y at *
 generalize mk p = x at *
 have HB : Hid (Below w.heap.size w (w.alloc (.cells #[.int .i64 i1, .int .i64 i2, .int .i64 v1, .int .i64 v2, .int .i64 t, .string x, .string y, .bool dd] 27))) := Lib.hid ((Below.refl _ _).alloc (Nat.le_refl _) _)
 by_cases h1 : p.length < 200
 ·have g1 : (x.size : Int) < 200 := by omega
  rw [decide_eq_true h1] at hE
  by_cases h2 : d.length < 400
  ·have g2 : (y.size : Int) < 400 := by omega
   rw [decide_eq_true h2] at hE
   clear h1 h2 lp ld
   go_enter Try.func7, Try.ntmps7
   go_wp2_with fail
   go_ret
   exact ⟨by rw [hE.out] <;> rfl, HB.out⟩
  ·have g2 : ¬ (y.size : Int) < 400 := by omega
   rw [decide_eq_false h2] at hE
   clear h1 h2 lp ld
   go_enter Try.func7, Try.ntmps7
   go_wp2_with fail
   go_ret
   exact ⟨by rw [hE.out] <;> rfl, HB.out⟩
 ·have g1 : ¬ (x.size : Int) < 200 := by omega
  rw [decide_eq_false h1] at hE
  clear h1 lp ld
  go_enter Try.func7, Try.ntmps7
  go_wp2_with fail
  go_ret
  exact ⟨by rw [hE.out] <;> rfl, HB.out⟩
theorem ref_usame {w : World} {F G : Nat → Prop} {u v : Value} {a b : List Upd.U} (ha : Ups w F u a) (hb : Ups w G v b) (la : a.length ≤ 1000000) (lb : b.length ≤ 1000000) :
  Calls Try.prog 22 #[u, v] w fun e w' => e = .returned (.bool (decide (a = b))) ∧ Below w.heap.size w w' := by
 have mixed : Try.prog.follows .mixedOrders = true := by kernel_rfl
 obtain ⟨A, ca, rfl, hca⟩ := ha.parts
 obtain ⟨B, cb, rfl, hcb⟩ := hb.parts
 have HA := Lib.hid ha
 have HB := Lib.hid hb
 have la' : (a.length : Int) ≤ 1000000 := by omega
 have lb' : (b.length : Int) ≤ 1000000 := by omega
 clear ha hb
 by_cases hlen : a.length = b.length
 ·rw [← hlen]
  rw [← hlen] at HB
  have Hlen := Lib.hid hlen
  clear hlen
  go_enter Try.func22, Try.ntmps22
  go_wp2_with fail
  go_loopw [5] (fun i wr => ∃ n : Nat, n ≤ a.length ∧ i = .int .i64 (n : Int) ∧ Hid (a.take n = b.take n) ∧ Hid (Below w.heap.size w wr)) (fun i _ => a.length - (intOf i).toNat)
  case atStart => exact ⟨0, Nat.zero_le _, rfl, Lib.hid (by rw [List.take_zero, List.take_zero]), Lib.hid (Below.refl _ _)⟩
  case round =>
   obtain ⟨n, hn, rfl, hsame, hbel⟩ := hrel
   by_cases hlt : n < a.length
   ·obtain ⟨b1, o1, cap1, e, -, -, hb1⟩ := HA.out.block (by omega)
    injection e with e1 e2 e3
    subst e1 e3
    obtain ⟨b2, o2, cap2, e, -, -, hb2⟩ := HB.out.block (by have := Hlen.out; omega)
    injection e with e1 e2 e3
    subst e1 e3
    clear e2
    obtain ⟨x, hx⟩ : ∃ x, a[n]? = some x := ⟨_, List.getElem?_eq_getElem hlt⟩
    obtain ⟨y, hy⟩ : ∃ y, b[n]? = some y := ⟨_, List.getElem?_eq_getElem (show n < b.length by have := Hlen.out; omega)⟩
    have LX := Lib.hid (fun (W : World) (hW : Below wr.heap.size wr W) => up_lies (range_rws (Rws.below (Rws.below HA.out hbel.out) hW) hx) (up_len x))
    have LY := Lib.hid (fun (W : World) (hW : Below wr.heap.size wr W) => up_lies (range_rws (Rws.below (Rws.below HB.out hbel.out) hW) hy) (up_len y))
    have hn0 : (0 : Int) ≤ (n : Int) := by omega
    have hn1 : (n : Int) < (a.length : Int) := by omega
    by_cases hxy : x = y
    ·have hnext : Hid (a.take (n + 1) = b.take (n + 1)) := Lib.hid (by
      obtain ⟨h1, e1⟩ := List.getElem?_eq_some_iff.1 hx
      obtain ⟨h2, e2⟩ := List.getElem?_eq_some_iff.1 hy
      rw [List.take_succ_eq_append_getElem h1, List.take_succ_eq_append_getElem h2, e1, e2, hsame.out, hxy])
     have hd := decide_eq_true hxy
     clear hx hy hsame hxy
     go_wp2_with fail
     refine wp_region_below mixed (by kernel_rfl) ?_
     refine wq_td ?_
     simp only [Act.put, z1, z2, z3, z4, z5, z6]
     refine wq_td ?_
     simp only [Act.put, z1, z2, z3, z4, z5, z6]
     refine wq_td ?_
     simp only [Act.put, z1, z2, z3, z4, z5, z6]
     refine wq_mload (by rfl) (.tmp 19) (by rfl) (by rfl) (fun w hSw => LX.out w hSw.below) ?_
     simp only [Act.put, z1, z2, z3, z4, z5, z6]
     refine wq_td ?_
     simp only [Act.put, z1, z2, z3, z4, z5, z6]
     refine wq_td ?_
     simp only [Act.put, z1, z2, z3, z4, z5, z6]
     refine wq_td ?_
     simp only [Act.put, z1, z2, z3, z4, z5, z6]
     refine wq_mload (by rfl) (.tmp 23) (by rfl) (by rfl) (fun w hSw => LY.out w hSw.below) ?_
     simp only [Act.put, z1, z2, z3, z4, z5, z6]
     refine wq_take (v := .bool (!true)) (by kernel_rfl) (by intro w hSw; exact exec_bin (by rfl) (by rfl) (by rfl) upGuard (by have e := up_neql w x y; rw [hd] at e; exact e)) ?_
     simp only [Act.put, z1, z2, z3, z4, z5, z6]
     refine wq_nil ?_
     intro wq hq
     have hb' := Lib.hid (hbel.out.trans (hq.below.mono hbel.out.size))
     clear hq LX LY hd hbel
     go_wp2_with fail
     refine ⟨⟨n + 1, by omega, by go_num, hnext, hb'⟩, ?_⟩
     show a.length - ((n : Int) + 1).toNat < a.length - (n : Int).toNat
     omega
    ·have hfin : Hid (decide (a = b) = false) := Lib.hid (decide_eq_false (fun h => by rw [h, hy] at hx; exact hxy (Option.some.inj hx).symm))
     have hd := decide_eq_false hxy
     clear hx hy hsame hxy
     go_wp2_with fail
     refine wp_region_below mixed (by kernel_rfl) ?_
     refine wq_td ?_
     simp only [Act.put, z1, z2, z3, z4, z5, z6]
     refine wq_td ?_
     simp only [Act.put, z1, z2, z3, z4, z5, z6]
     refine wq_td ?_
     simp only [Act.put, z1, z2, z3, z4, z5, z6]
     refine wq_mload (by rfl) (.tmp 19) (by rfl) (by rfl) (fun w hSw => LX.out w hSw.below) ?_
     simp only [Act.put, z1, z2, z3, z4, z5, z6]
     refine wq_td ?_
     simp only [Act.put, z1, z2, z3, z4, z5, z6]
     refine wq_td ?_
     simp only [Act.put, z1, z2, z3, z4, z5, z6]
     refine wq_td ?_
     simp only [Act.put, z1, z2, z3, z4, z5, z6]
     refine wq_mload (by rfl) (.tmp 23) (by rfl) (by rfl) (fun w hSw => LY.out w hSw.below) ?_
     simp only [Act.put, z1, z2, z3, z4, z5, z6]
     refine wq_take (v := .bool (!false)) (by kernel_rfl) (by intro w hSw; exact exec_bin (by rfl) (by rfl) (by rfl) upGuard (by have e := up_neql w x y; rw [hd] at e; exact e)) ?_
     simp only [Act.put, z1, z2, z3, z4, z5, z6]
     refine wq_nil ?_
     intro wq hq
     have hb' := Lib.hid (hbel.out.trans (hq.below.mono hbel.out.size))
     clear hq LX LY hd hbel
     go_wp2_with fail
     go_ret
     exact ⟨by rw [hfin.out] <;> rfl, hb'.out⟩
   ·obtain rfl : n = a.length := by omega
    have hfin : Hid (decide (a = b) = true) := Lib.hid (decide_eq_true (by
     have := hsame.out
     rwa [List.take_length, Hlen.out, List.take_length] at this))
    clear hsame
    go_wp2_with fail
    go_ret
    exact ⟨by rw [hfin.out] <;> rfl, hbel.out⟩
 ·have hfin : Hid (decide (a = b) = false) := Lib.hid (decide_eq_false (fun h => hlen (by rw [h])))
  have hne : ¬ (a.length : Int) = (b.length : Int) := by omega
  clear hlen
  go_enter Try.func22, Try.ntmps22
  go_wp2_with fail
  go_ret
  exact ⟨by rw [hfin.out] <;> rfl, Below.refl _ _⟩
def Upd.BestAt (l : List Upd.U) (i : Nat) (item : Ver.V) (k : Int) : Prop := (Upd.best (l.take i) item = none ∧ k = -1) ∨ ∃ (j : Nat) (u : Upd.U), k = (j : Int) ∧ j < i ∧ l[j]? = some u ∧ Upd.best (l.take i) item = some u
theorem ref_ubest {w : World} {F : Nat → Prop} {v : Value} {l : List Upd.U} (h : Ups w F v l) (hl : l.length ≤ 100000) (item : Ver.V) :
  Calls Try.prog 21 #[v, verA item] w fun e w' => (∃ k : Int, e = .returned (.int .i64 k) ∧ Upd.BestAt l l.length item k) ∧ Below w.heap.size w w' := by
 have mixed : Try.prog.follows .mixedOrders = true := by kernel_rfl
 obtain ⟨A, cap, rfl, -⟩ := h.parts
 obtain ⟨x1, x2⟩ := item
 obtain ⟨W0, hW0⟩ : ∃ W0, W0 = w.alloc (.cells #[.int .i64 x1, .int .i64 x2] 23) := ⟨_, rfl⟩
 have hb0 : Below w.heap.size w W0 := by rw [hW0]; exact (Below.refl _ _).alloc (Nat.le_refl _) _
 have r0 : Row W0 w.heap.size 23 #[.int .i64 x1, .int .i64 x2] := by rw [hW0]; exact Row.made w _ _
 have XC := Lib.hid (fun (W : World) (h : Below W0.heap.size W0 W) => (⟨(r0.below h r0.inHeap).at 0, (r0.below h r0.inHeap).at 1⟩ : W.cell? ⟨w.heap.size, 0, none⟩ = some (.int .i64 x1) ∧ W.cell? ⟨w.heap.size, 1, none⟩ = some (.int .i64 x2)))
 have HB0 := Lib.hid hb0
 have H := Lib.hid (Rws.below h hb0)
 have hl' : (l.length : Int) ≤ 100000 := by omega
 clear h hb0 r0 hl
 go_enter Try.func21, Try.ntmps21
 go_wp2_with fail
 rw [← hW0]
 clear hW0
 go_loopw [5, 6] (fun s5 s6 wr => ∃ (i : Nat) (k : Int), i ≤ l.length ∧ s5 = .int .i64 k ∧ s6 = .int .i64 (i : Int) ∧ Hid (Upd.BestAt l i ⟨x1, x2⟩ k) ∧ Hid (Below W0.heap.size W0 wr)) (fun _ s6 _ => l.length - (intOf s6).toNat)
 case atStart => exact ⟨0, -1, Nat.zero_le _, rfl, rfl, Lib.hid (Or.inl ⟨rfl, rfl⟩), Lib.hid (Below.refl _ _)⟩
 case round =>
  obtain ⟨i, k, hi, rfl, rfl, hA, hB⟩ := hrel
  by_cases hlt : i < l.length
  ·obtain ⟨x, hx⟩ : ∃ x, l[i]? = some x := ⟨_, List.getElem?_eq_getElem hlt⟩
   obtain ⟨b, o, rfl⟩ : ∃ b o, A = some ⟨b, o, none⟩ := by
    obtain ⟨b, o, c, e, -⟩ := H.out.block (by omega)
    injection e with e1
    exact ⟨b, o, e1⟩
   have RG := Lib.hid (fun (W : World) (hW : Below wr.heap.size wr W) (j : Nat) (u : Upd.U) (hu : l[j]? = some u) => range_rws (Rws.below (Rws.below H.out hB.out) hW) hu)
   have LI := Lib.hid (fun (W : World) (hW : Below wr.heap.size wr W) => up_item_lies (RG.out W hW i x hx))
   have LS := Lib.hid (fun (W : World) (hW : Below wr.heap.size wr W) => up_stp_lies (RG.out W hW i x hx))
   have XW := Lib.hid (fun (W : World) (hW : Below wr.heap.size wr W) => XC.out W (hB.out.trans (hW.mono hB.out.size)))
   have hi0 : (0 : Int) ≤ (i : Int) := by omega
   have hi1 : (i : Int) < (l.length : Int) := by omega
   have hst := Upd.best_take l ⟨x1, x2⟩ i x hx
   unfold Upd.step at hst
   by_cases hit : x.item = ⟨x1, x2⟩
   ·rw [if_pos hit] at hst
    have hd := decide_eq_true hit
    rcases hA.out with ⟨hn, rfl⟩ | ⟨j, u, rfl, hj, hu, hbu⟩
    ·rw [hn] at hst
     have hnext : Hid (Upd.BestAt l (i + 1) ⟨x1, x2⟩ (i : Int)) := Lib.hid (Or.inr ⟨i, x, rfl, Nat.lt_succ_self _, hx, hst⟩)
     clear hA hst hn hx hit
     go_wp2_with fail
     refine wp_region_below mixed (by kernel_rfl) ?_
     refine wq_take (v := ?_) (by kernel_rfl) (by intro w hSw; obtain ⟨c0, c1⟩ := XW.out w hSw.below; go_simp; first | done | with_reducible rfl) ?_
     simp only [Act.put, z1, z2, z3, z4, z5, z6]
     refine wq_take (v := ?_) (by kernel_rfl) (by intro w hSw; obtain ⟨c0, c1⟩ := XW.out w hSw.below; go_simp; first | done | with_reducible rfl) ?_
     simp only [Act.put, z1, z2, z3, z4, z5, z6]
     refine wq_take (v := ?_) (by kernel_rfl) (by intro w hSw; obtain ⟨c0, c1⟩ := XW.out w hSw.below; go_simp; first | done | with_reducible rfl) ?_
     simp only [Act.put, z1, z2, z3, z4, z5, z6]
     refine wq_take (v := ?_) (by kernel_rfl) (by intro w hSw; obtain ⟨c0, c1⟩ := XW.out w hSw.below; go_simp; first | done | with_reducible rfl) ?_
     simp only [Act.put, z1, z2, z3, z4, z5, z6]
     refine wq_mload (by rfl) (.tmp 16) (by rfl) (by rfl) (fun w hSw => LI.out w hSw.below) ?_
     simp only [Act.put, z1, z2, z3, z4, z5, z6]
     refine wq_take (v := ?_) (by kernel_rfl) (by intro w hSw; obtain ⟨c0, c1⟩ := XW.out w hSw.below; go_simp; first | done | with_reducible rfl) ?_
     simp only [Act.put, z1, z2, z3, z4, z5, z6]
     refine wq_take (v := .bool true) (by kernel_rfl) (by intro w hSw; exact exec_bin (by rfl) (by rfl) (by rfl) verGuard (by have e := ver_eql w x.item ⟨x1, x2⟩; rw [hd] at e; exact e)) ?_
     simp only [Act.put, z1, z2, z3, z4, z5, z6]
     refine wq_take (v := ?_) (by kernel_rfl) (by intro w hSw; obtain ⟨c0, c1⟩ := XW.out w hSw.below; go_simp; first | done | with_reducible rfl) ?_
     simp only [Act.put, z1, z2, z3, z4, z5, z6]
     refine wq_take (v := ?_) (by kernel_rfl) (by intro w hSw; obtain ⟨c0, c1⟩ := XW.out w hSw.below; go_simp; first | done | with_reducible rfl) ?_
     simp only [Act.put, z1, z2, z3, z4, z5, z6]
     refine wq_take (v := ?_) (by kernel_rfl) (by intro w hSw; obtain ⟨c0, c1⟩ := XW.out w hSw.below; go_simp; first | done | with_reducible rfl) ?_
     simp only [Act.put, z1, z2, z3, z4, z5, z6]
     refine wq_take (v := ?_) (by kernel_rfl) (by intro w hSw; obtain ⟨c0, c1⟩ := XW.out w hSw.below; go_simp; first | done | with_reducible rfl) ?_
     simp only [Act.put, z1, z2, z3, z4, z5, z6]
     refine wq_skip (by kernel_rfl) ?_
     simp only [Act.put, z1, z2, z3, z4, z5, z6]
     refine wq_skip (by kernel_rfl) ?_
     simp only [Act.put, z1, z2, z3, z4, z5, z6]
     refine wq_skip (by kernel_rfl) ?_
     simp only [Act.put, z1, z2, z3, z4, z5, z6]
     refine wq_skip (by kernel_rfl) ?_
     simp only [Act.put, z1, z2, z3, z4, z5, z6]
     refine wq_skip (by kernel_rfl) ?_
     simp only [Act.put, z1, z2, z3, z4, z5, z6]
     refine wq_skip (by kernel_rfl) ?_
     simp only [Act.put, z1, z2, z3, z4, z5, z6]
     refine wq_skip (by kernel_rfl) ?_
     simp only [Act.put, z1, z2, z3, z4, z5, z6]
     refine wq_skip (by kernel_rfl) ?_
     simp only [Act.put, z1, z2, z3, z4, z5, z6]
     refine wq_skip (by kernel_rfl) ?_
     simp only [Act.put, z1, z2, z3, z4, z5, z6]
     refine wq_skip (by kernel_rfl) ?_
     simp only [Act.put, z1, z2, z3, z4, z5, z6]
     refine wq_skip (by kernel_rfl) ?_
     simp only [Act.put, z1, z2, z3, z4, z5, z6]
     refine wq_take (v := ?_) (by kernel_rfl) (by intro w hSw; obtain ⟨c0, c1⟩ := XW.out w hSw.below; go_simp; first | done | with_reducible rfl) ?_
     simp only [Act.put, z1, z2, z3, z4, z5, z6]
     refine wq_take (v := ?_) (by kernel_rfl) (by intro w hSw; obtain ⟨c0, c1⟩ := XW.out w hSw.below; go_simp; first | done | with_reducible rfl) ?_
     simp only [Act.put, z1, z2, z3, z4, z5, z6]
     refine wq_nil ?_
     intro wq hq
     have hb' := Lib.hid (hB.out.trans (hq.below.mono hB.out.size))
     clear hq LI LS hd hB RG XW
     go_wp2_with fail
     exact ⟨⟨i + 1, _, by omega, rfl, by go_num, hnext, hb'⟩, by show l.length - ((i : Int) + 1).toNat < l.length - (i : Int).toNat; omega⟩
    ·rw [hbu] at hst
     simp only at hst
     have LU := Lib.hid (fun (W : World) (hW : Below wr.heap.size wr W) => up_stp_lies (RG.out W hW j u hu))
     have OL := Lib.hid (fun (W : World) (hW : Below wr.heap.size wr W) => ((ref_older W u.stamp x.stamp).mono (fun _ _ h => (⟨h.1, h.2.below⟩ : _ ∧ Below W.heap.size W _)) : Calls Try.prog 26 #[.agg (stpV u.stamp).toArray, .agg (stpV x.stamp).toArray] W fun e w' => e = .returned (.bool (decide (Ver.Older u.stamp x.stamp))) ∧ Below W.heap.size W w'))
     have hj0 : (0 : Int) ≤ (j : Int) := by omega
     have hj1 : (j : Int) < (l.length : Int) := by omega
     have hj2 : ¬ ((j : Int) < 0) := by omega
     by_cases hw : Ver.Older u.stamp x.stamp
     ·have hnext : Hid (Upd.BestAt l (i + 1) ⟨x1, x2⟩ (i : Int)) := Lib.hid (Or.inr ⟨i, x, rfl, Nat.lt_succ_self _, hx, by rw [hst]; exact if_pos hw⟩)
      rw [decide_eq_true hw] at OL
      clear hA hst hbu hx hu hit hw
      go_wp2_with fail
      refine wp_region_below mixed (by kernel_rfl) ?_
      refine wq_take (v := ?_) (by kernel_rfl) (by intro w hSw; obtain ⟨c0, c1⟩ := XW.out w hSw.below; go_simp; first | done | with_reducible rfl) ?_
      simp only [Act.put, z1, z2, z3, z4, z5, z6]
      refine wq_take (v := ?_) (by kernel_rfl) (by intro w hSw; obtain ⟨c0, c1⟩ := XW.out w hSw.below; go_simp; first | done | with_reducible rfl) ?_
      simp only [Act.put, z1, z2, z3, z4, z5, z6]
      refine wq_take (v := ?_) (by kernel_rfl) (by intro w hSw; obtain ⟨c0, c1⟩ := XW.out w hSw.below; go_simp; first | done | with_reducible rfl) ?_
      simp only [Act.put, z1, z2, z3, z4, z5, z6]
      refine wq_take (v := ?_) (by kernel_rfl) (by intro w hSw; obtain ⟨c0, c1⟩ := XW.out w hSw.below; go_simp; first | done | with_reducible rfl) ?_
      simp only [Act.put, z1, z2, z3, z4, z5, z6]
      refine wq_mload (by rfl) (.tmp 16) (by rfl) (by rfl) (fun w hSw => LI.out w hSw.below) ?_
      simp only [Act.put, z1, z2, z3, z4, z5, z6]
      refine wq_take (v := ?_) (by kernel_rfl) (by intro w hSw; obtain ⟨c0, c1⟩ := XW.out w hSw.below; go_simp; first | done | with_reducible rfl) ?_
      simp only [Act.put, z1, z2, z3, z4, z5, z6]
      refine wq_take (v := .bool true) (by kernel_rfl) (by intro w hSw; exact exec_bin (by rfl) (by rfl) (by rfl) verGuard (by have e := ver_eql w x.item ⟨x1, x2⟩; rw [hd] at e; exact e)) ?_
      simp only [Act.put, z1, z2, z3, z4, z5, z6]
      refine wq_take (v := ?_) (by kernel_rfl) (by intro w hSw; obtain ⟨c0, c1⟩ := XW.out w hSw.below; go_simp; first | done | with_reducible rfl) ?_
      simp only [Act.put, z1, z2, z3, z4, z5, z6]
      refine wq_take (v := ?_) (by kernel_rfl) (by intro w hSw; obtain ⟨c0, c1⟩ := XW.out w hSw.below; go_simp; first | done | with_reducible rfl) ?_
      simp only [Act.put, z1, z2, z3, z4, z5, z6]
      refine wq_take (v := ?_) (by kernel_rfl) (by intro w hSw; obtain ⟨c0, c1⟩ := XW.out w hSw.below; go_simp; first | done | with_reducible rfl) ?_
      simp only [Act.put, z1, z2, z3, z4, z5, z6]
      refine wq_take (v := ?_) (by kernel_rfl) (by intro w hSw; obtain ⟨c0, c1⟩ := XW.out w hSw.below; go_simp; first | done | with_reducible rfl) ?_
      simp only [Act.put, z1, z2, z3, z4, z5, z6]
      refine wq_take (v := ?_) (by kernel_rfl) (by intro w hSw; obtain ⟨c0, c1⟩ := XW.out w hSw.below; go_simp; first | done | with_reducible rfl) ?_
      simp only [Act.put, z1, z2, z3, z4, z5, z6]
      refine wq_take (v := ?_) (by kernel_rfl) (by intro w hSw; obtain ⟨c0, c1⟩ := XW.out w hSw.below; go_simp; first | done | with_reducible rfl) ?_
      simp only [Act.put, z1, z2, z3, z4, z5, z6]
      refine wq_take (v := ?_) (by kernel_rfl) (by intro w hSw; obtain ⟨c0, c1⟩ := XW.out w hSw.below; go_simp; first | done | with_reducible rfl) ?_
      simp only [Act.put, z1, z2, z3, z4, z5, z6]
      refine wq_take (v := ?_) (by kernel_rfl) (by intro w hSw; obtain ⟨c0, c1⟩ := XW.out w hSw.below; go_simp; first | done | with_reducible rfl) ?_
      simp only [Act.put, z1, z2, z3, z4, z5, z6]
      refine wq_mload (by rfl) (.tmp 27) (by rfl) (by rfl) (fun w hSw => LU.out w hSw.below) ?_
      simp only [Act.put, z1, z2, z3, z4, z5, z6]
      refine wq_take (v := ?_) (by kernel_rfl) (by intro w hSw; obtain ⟨c0, c1⟩ := XW.out w hSw.below; go_simp; first | done | with_reducible rfl) ?_
      simp only [Act.put, z1, z2, z3, z4, z5, z6]
      refine wq_take (v := ?_) (by kernel_rfl) (by intro w hSw; obtain ⟨c0, c1⟩ := XW.out w hSw.below; go_simp; first | done | with_reducible rfl) ?_
      simp only [Act.put, z1, z2, z3, z4, z5, z6]
      refine wq_take (v := ?_) (by kernel_rfl) (by intro w hSw; obtain ⟨c0, c1⟩ := XW.out w hSw.below; go_simp; first | done | with_reducible rfl) ?_
      simp only [Act.put, z1, z2, z3, z4, z5, z6]
      refine wq_take (v := ?_) (by kernel_rfl) (by intro w hSw; obtain ⟨c0, c1⟩ := XW.out w hSw.below; go_simp; first | done | with_reducible rfl) ?_
      simp only [Act.put, z1, z2, z3, z4, z5, z6]
      refine wq_mload (by rfl) (.tmp 32) (by rfl) (by rfl) (fun w hSw => LS.out w hSw.below) ?_
      simp only [Act.put, z1, z2, z3, z4, z5, z6]
      refine wq_call (by kernel_rfl) ?hent (fun w hSw => inB_calls hSw (OL.out w hSw.below)) ?_; (case hent => (intro w hSw; go_simp; first | done | exact ⟨rfl, rfl⟩ | rfl))
      simp only [Act.put, z1, z2, z3, z4, z5, z6]
      refine wq_take (v := ?_) (by kernel_rfl) (by intro w hSw; obtain ⟨c0, c1⟩ := XW.out w hSw.below; go_simp; first | done | with_reducible rfl) ?_
      simp only [Act.put, z1, z2, z3, z4, z5, z6]
      refine wq_take (v := ?_) (by kernel_rfl) (by intro w hSw; obtain ⟨c0, c1⟩ := XW.out w hSw.below; go_simp; first | done | with_reducible rfl) ?_
      simp only [Act.put, z1, z2, z3, z4, z5, z6]
      refine wq_nil ?_
      intro wq hq
      have hb' := Lib.hid (hB.out.trans (hq.below.mono hB.out.size))
      clear hq LI LS LU OL hd hB RG XW
      go_wp2_with fail
      exact ⟨⟨i + 1, _, by omega, rfl, by go_num, hnext, hb'⟩, by show l.length - ((i : Int) + 1).toNat < l.length - (i : Int).toNat; omega⟩
     ·have hnext : Hid (Upd.BestAt l (i + 1) ⟨x1, x2⟩ (j : Int)) := Lib.hid (Or.inr ⟨j, u, rfl, by omega, hu, by rw [hst]; exact if_neg hw⟩)
      rw [decide_eq_false hw] at OL
      clear hA hst hbu hx hu hit hw
      go_wp2_with fail
      refine wp_region_below mixed (by kernel_rfl) ?_
      refine wq_take (v := ?_) (by kernel_rfl) (by intro w hSw; obtain ⟨c0, c1⟩ := XW.out w hSw.below; go_simp; first | done | with_reducible rfl) ?_
      simp only [Act.put, z1, z2, z3, z4, z5, z6]
      refine wq_take (v := ?_) (by kernel_rfl) (by intro w hSw; obtain ⟨c0, c1⟩ := XW.out w hSw.below; go_simp; first | done | with_reducible rfl) ?_
      simp only [Act.put, z1, z2, z3, z4, z5, z6]
      refine wq_take (v := ?_) (by kernel_rfl) (by intro w hSw; obtain ⟨c0, c1⟩ := XW.out w hSw.below; go_simp; first | done | with_reducible rfl) ?_
      simp only [Act.put, z1, z2, z3, z4, z5, z6]
      refine wq_take (v := ?_) (by kernel_rfl) (by intro w hSw; obtain ⟨c0, c1⟩ := XW.out w hSw.below; go_simp; first | done | with_reducible rfl) ?_
      simp only [Act.put, z1, z2, z3, z4, z5, z6]
      refine wq_mload (by rfl) (.tmp 16) (by rfl) (by rfl) (fun w hSw => LI.out w hSw.below) ?_
      simp only [Act.put, z1, z2, z3, z4, z5, z6]
      refine wq_take (v := ?_) (by kernel_rfl) (by intro w hSw; obtain ⟨c0, c1⟩ := XW.out w hSw.below; go_simp; first | done | with_reducible rfl) ?_
      simp only [Act.put, z1, z2, z3, z4, z5, z6]
      refine wq_take (v := .bool true) (by kernel_rfl) (by intro w hSw; exact exec_bin (by rfl) (by rfl) (by rfl) verGuard (by have e := ver_eql w x.item ⟨x1, x2⟩; rw [hd] at e; exact e)) ?_
      simp only [Act.put, z1, z2, z3, z4, z5, z6]
      refine wq_take (v := ?_) (by kernel_rfl) (by intro w hSw; obtain ⟨c0, c1⟩ := XW.out w hSw.below; go_simp; first | done | with_reducible rfl) ?_
      simp only [Act.put, z1, z2, z3, z4, z5, z6]
      refine wq_take (v := ?_) (by kernel_rfl) (by intro w hSw; obtain ⟨c0, c1⟩ := XW.out w hSw.below; go_simp; first | done | with_reducible rfl) ?_
      simp only [Act.put, z1, z2, z3, z4, z5, z6]
      refine wq_take (v := ?_) (by kernel_rfl) (by intro w hSw; obtain ⟨c0, c1⟩ := XW.out w hSw.below; go_simp; first | done | with_reducible rfl) ?_
      simp only [Act.put, z1, z2, z3, z4, z5, z6]
      refine wq_take (v := ?_) (by kernel_rfl) (by intro w hSw; obtain ⟨c0, c1⟩ := XW.out w hSw.below; go_simp; first | done | with_reducible rfl) ?_
      simp only [Act.put, z1, z2, z3, z4, z5, z6]
      refine wq_take (v := ?_) (by kernel_rfl) (by intro w hSw; obtain ⟨c0, c1⟩ := XW.out w hSw.below; go_simp; first | done | with_reducible rfl) ?_
      simp only [Act.put, z1, z2, z3, z4, z5, z6]
      refine wq_take (v := ?_) (by kernel_rfl) (by intro w hSw; obtain ⟨c0, c1⟩ := XW.out w hSw.below; go_simp; first | done | with_reducible rfl) ?_
      simp only [Act.put, z1, z2, z3, z4, z5, z6]
      refine wq_take (v := ?_) (by kernel_rfl) (by intro w hSw; obtain ⟨c0, c1⟩ := XW.out w hSw.below; go_simp; first | done | with_reducible rfl) ?_
      simp only [Act.put, z1, z2, z3, z4, z5, z6]
      refine wq_take (v := ?_) (by kernel_rfl) (by intro w hSw; obtain ⟨c0, c1⟩ := XW.out w hSw.below; go_simp; first | done | with_reducible rfl) ?_
      simp only [Act.put, z1, z2, z3, z4, z5, z6]
      refine wq_mload (by rfl) (.tmp 27) (by rfl) (by rfl) (fun w hSw => LU.out w hSw.below) ?_
      simp only [Act.put, z1, z2, z3, z4, z5, z6]
      refine wq_take (v := ?_) (by kernel_rfl) (by intro w hSw; obtain ⟨c0, c1⟩ := XW.out w hSw.below; go_simp; first | done | with_reducible rfl) ?_
      simp only [Act.put, z1, z2, z3, z4, z5, z6]
      refine wq_take (v := ?_) (by kernel_rfl) (by intro w hSw; obtain ⟨c0, c1⟩ := XW.out w hSw.below; go_simp; first | done | with_reducible rfl) ?_
      simp only [Act.put, z1, z2, z3, z4, z5, z6]
      refine wq_take (v := ?_) (by kernel_rfl) (by intro w hSw; obtain ⟨c0, c1⟩ := XW.out w hSw.below; go_simp; first | done | with_reducible rfl) ?_
      simp only [Act.put, z1, z2, z3, z4, z5, z6]
      refine wq_take (v := ?_) (by kernel_rfl) (by intro w hSw; obtain ⟨c0, c1⟩ := XW.out w hSw.below; go_simp; first | done | with_reducible rfl) ?_
      simp only [Act.put, z1, z2, z3, z4, z5, z6]
      refine wq_mload (by rfl) (.tmp 32) (by rfl) (by rfl) (fun w hSw => LS.out w hSw.below) ?_
      simp only [Act.put, z1, z2, z3, z4, z5, z6]
      refine wq_call (by kernel_rfl) ?hent (fun w hSw => inB_calls hSw (OL.out w hSw.below)) ?_; (case hent => (intro w hSw; go_simp; first | done | exact ⟨rfl, rfl⟩ | rfl))
      simp only [Act.put, z1, z2, z3, z4, z5, z6]
      refine wq_take (v := ?_) (by kernel_rfl) (by intro w hSw; obtain ⟨c0, c1⟩ := XW.out w hSw.below; go_simp; first | done | with_reducible rfl) ?_
      simp only [Act.put, z1, z2, z3, z4, z5, z6]
      refine wq_take (v := ?_) (by kernel_rfl) (by intro w hSw; obtain ⟨c0, c1⟩ := XW.out w hSw.below; go_simp; first | done | with_reducible rfl) ?_
      simp only [Act.put, z1, z2, z3, z4, z5, z6]
      refine wq_nil ?_
      intro wq hq
      have hb' := Lib.hid (hB.out.trans (hq.below.mono hB.out.size))
      clear hq LI LS LU OL hd hB RG XW
      go_wp2_with fail
      exact ⟨⟨i + 1, _, by omega, rfl, by go_num, hnext, hb'⟩, by show l.length - ((i : Int) + 1).toNat < l.length - (i : Int).toNat; omega⟩
   ·rw [if_neg hit] at hst
    have hd := decide_eq_false hit
    have hnext : Hid (Upd.BestAt l (i + 1) ⟨x1, x2⟩ k) := Lib.hid (by
     rcases hA.out with ⟨hn, e⟩ | ⟨j, u, e, hj, hu, hbu⟩
     ·exact Or.inl ⟨by rw [hst]; exact hn, e⟩
     ·exact Or.inr ⟨j, u, e, by omega, hu, by rw [hst]; exact hbu⟩)
    clear hA hst hx hit
    go_wp2_with fail
    refine wp_region_below mixed (by kernel_rfl) ?_
    refine wq_take (v := ?_) (by kernel_rfl) (by intro w hSw; obtain ⟨c0, c1⟩ := XW.out w hSw.below; go_simp; first | done | with_reducible rfl) ?_
    simp only [Act.put, z1, z2, z3, z4, z5, z6]
    refine wq_take (v := ?_) (by kernel_rfl) (by intro w hSw; obtain ⟨c0, c1⟩ := XW.out w hSw.below; go_simp; first | done | with_reducible rfl) ?_
    simp only [Act.put, z1, z2, z3, z4, z5, z6]
    refine wq_take (v := ?_) (by kernel_rfl) (by intro w hSw; obtain ⟨c0, c1⟩ := XW.out w hSw.below; go_simp; first | done | with_reducible rfl) ?_
    simp only [Act.put, z1, z2, z3, z4, z5, z6]
    refine wq_take (v := ?_) (by kernel_rfl) (by intro w hSw; obtain ⟨c0, c1⟩ := XW.out w hSw.below; go_simp; first | done | with_reducible rfl) ?_
    simp only [Act.put, z1, z2, z3, z4, z5, z6]
    refine wq_mload (by rfl) (.tmp 16) (by rfl) (by rfl) (fun w hSw => LI.out w hSw.below) ?_
    simp only [Act.put, z1, z2, z3, z4, z5, z6]
    refine wq_take (v := ?_) (by kernel_rfl) (by intro w hSw; obtain ⟨c0, c1⟩ := XW.out w hSw.below; go_simp; first | done | with_reducible rfl) ?_
    simp only [Act.put, z1, z2, z3, z4, z5, z6]
    refine wq_take (v := .bool false) (by kernel_rfl) (by intro w hSw; exact exec_bin (by rfl) (by rfl) (by rfl) verGuard (by have e := ver_eql w x.item ⟨x1, x2⟩; rw [hd] at e; exact e)) ?_
    simp only [Act.put, z1, z2, z3, z4, z5, z6]
    refine wq_take (v := ?_) (by kernel_rfl) (by intro w hSw; obtain ⟨c0, c1⟩ := XW.out w hSw.below; go_simp; first | done | with_reducible rfl) ?_
    simp only [Act.put, z1, z2, z3, z4, z5, z6]
    refine wq_skip (by kernel_rfl) ?_
    simp only [Act.put, z1, z2, z3, z4, z5, z6]
    refine wq_skip (by kernel_rfl) ?_
    simp only [Act.put, z1, z2, z3, z4, z5, z6]
    refine wq_skip (by kernel_rfl) ?_
    simp only [Act.put, z1, z2, z3, z4, z5, z6]
    refine wq_skip (by kernel_rfl) ?_
    simp only [Act.put, z1, z2, z3, z4, z5, z6]
    refine wq_skip (by kernel_rfl) ?_
    simp only [Act.put, z1, z2, z3, z4, z5, z6]
    refine wq_skip (by kernel_rfl) ?_
    simp only [Act.put, z1, z2, z3, z4, z5, z6]
    refine wq_skip (by kernel_rfl) ?_
    simp only [Act.put, z1, z2, z3, z4, z5, z6]
    refine wq_skip (by kernel_rfl) ?_
    simp only [Act.put, z1, z2, z3, z4, z5, z6]
    refine wq_skip (by kernel_rfl) ?_
    simp only [Act.put, z1, z2, z3, z4, z5, z6]
    refine wq_skip (by kernel_rfl) ?_
    simp only [Act.put, z1, z2, z3, z4, z5, z6]
    refine wq_skip (by kernel_rfl) ?_
    simp only [Act.put, z1, z2, z3, z4, z5, z6]
    refine wq_skip (by kernel_rfl) ?_
    simp only [Act.put, z1, z2, z3, z4, z5, z6]
    refine wq_skip (by kernel_rfl) ?_
    simp only [Act.put, z1, z2, z3, z4, z5, z6]
    refine wq_skip (by kernel_rfl) ?_
    simp only [Act.put, z1, z2, z3, z4, z5, z6]
    refine wq_skip (by kernel_rfl) ?_
    simp only [Act.put, z1, z2, z3, z4, z5, z6]
    refine wq_take (v := ?_) (by kernel_rfl) (by intro w hSw; obtain ⟨c0, c1⟩ := XW.out w hSw.below; go_simp; first | done | with_reducible rfl) ?_
    simp only [Act.put, z1, z2, z3, z4, z5, z6]
    refine wq_nil ?_
    intro wq hq
    have hb' := Lib.hid (hB.out.trans (hq.below.mono hB.out.size))
    clear hq LI LS hd hB RG XW
    go_wp2_with fail
    exact ⟨⟨i + 1, _, by omega, rfl, by go_num, hnext, hb'⟩, by show l.length - ((i : Int) + 1).toNat < l.length - (i : Int).toNat; omega⟩
  ·obtain rfl : i = l.length := by omega
   go_wp2_with fail
   go_ret
   exact ⟨⟨_, rfl, hA.out⟩, HB0.out.trans (hB.out.mono HB0.out.size)⟩
end Go.Proofs.Ytgpeobmaneponaa
