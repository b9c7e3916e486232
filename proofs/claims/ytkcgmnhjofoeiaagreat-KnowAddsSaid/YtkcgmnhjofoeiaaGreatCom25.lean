import Derived.Test.YtkcgmnhjofoeiaaGreatCom6
import Derived.Test.YtkcgmnhjofoeiaaGreatCom10
import Derived.Test.YtkcgmnhjofoeiaaGreatCom24
import Derived.Test.YtkcgmnhjofoeiaaGreatCom9
import Derived.Deep.QuietTactic
import Derived.Great.Walk
set_option maxRecDepth 100000
set_option linter.all false
set_option maxHeartbeats 12800000
namespace Go.Proofs.YtkcgmnhjofoeiaaGreat
open Go.RowKit Go.Sort
theorem Iset.not_take {l : List Ver.V} {x y : Ver.V} {n : Nat} (hy : l[n]? = some y) (h : x ∉ l.take n) (hne : y ≠ x) : x ∉ l.take (n + 1) := by
 obtain ⟨h1, e1⟩ := List.getElem?_eq_some_iff.1 hy
 rw [List.take_succ_eq_append_getElem h1, e1]
 intro hx
 rcases List.mem_append.1 hx with hx | hx
 ·exact h hx
 ·exact hne (List.mem_singleton.1 hx).symm
theorem iset_boxed (w : World) (x1 x2 : Int) : ∀ W, Laid (w.alloc (.cells #[.int .i64 x1, .int .i64 x2] 33)) W → W.cell? ⟨w.heap.size, 0, none⟩ = some (.int .i64 x1) ∧ W.cell? ⟨w.heap.size, 1, none⟩ = some (.int .i64 x2) := fun W hW =>
 ⟨(hW.below.cell (p := ⟨w.heap.size, 0, none⟩) (by simp)).trans ((Row.made w 33 #[.int .i64 x1, .int .i64 x2]).at 0), (hW.below.cell (p := ⟨w.heap.size, 1, none⟩) (by simp)).trans ((Row.made w 33 #[.int .i64 x1, .int .i64 x2]).at 1)⟩
theorem ref_ihas {w : World} {F : Nat → Prop} {v : Value} {l : List Ver.V} (x : Ver.V) (h : Vrs w F v l) (hl : l.length ≤ 9000000) :
  Calls Tryz.prog 36 #[v, verA x] w fun e w' => e = .returned (.bool (decide (x ∈ l))) ∧ Laid w w' := by
 obtain ⟨A, cap, rfl, hcap⟩ := h.parts
 have H := Lib.hid h
 have hl' : (l.length : Int) ≤ 9000000 := by omega
 obtain ⟨x1, x2⟩ := x
 have LB := Lib.hid (Laid.new w (.cells #[.int .i64 x1, .int .i64 x2] 33))
 have XB := Lib.hid (iset_boxed w x1 x2)
 clear h
 go_enter Tryz.func36, Tryz.ntmps36
 go_wp2_with fail
 go_loopw [5] (fun i wr => ∃ n : Nat, n ≤ l.length ∧ i = .int .i64 (n : Int) ∧ Hid ((⟨x1, x2⟩ : Ver.V) ∉ l.take n) ∧ Laid (w.alloc (.cells #[.int .i64 x1, .int .i64 x2] 33)) wr) (fun i _ => l.length - (intOf i).toNat)
 case atStart => exact ⟨0, Nat.zero_le _, rfl, Lib.hid (by simp), Laid.refl _⟩
 case round =>
  obtain ⟨n, hn, rfl, hnot, hlaid⟩ := hrel
  have HL := Lib.hid (LB.out.trans hlaid)
  have HLD := Lib.hid hlaid
  by_cases hlt : n < l.length
  ·obtain ⟨b, o, cap1, e, -, -, hb⟩ := H.out.block (by omega)
   injection e with e1 e2 e3
   subst e1 e3
   clear e2
   obtain ⟨y, hy⟩ : ∃ y, l[n]? = some y := ⟨_, List.getElem?_eq_getElem hlt⟩
   obtain ⟨c0, c1⟩ := Vrs.at (H.out.below HL.out.below) hy
   obtain ⟨q0, q1⟩ := XB.out _ hlaid
   have hn0 : (0 : Int) ≤ (n : Int) := by omega
   have hn1 : (n : Int) < (l.length : Int) := by omega
   clear hlaid
   by_cases hxy : y = ⟨x1, x2⟩
   ·have hin : Hid ((⟨x1, x2⟩ : Ver.V) ∈ l) := Lib.hid (by rw [← hxy]; exact List.mem_of_getElem? hy)
    subst hxy
    simp only at c0 c1
    clear hy hnot
    go_wp2_with fail
    go_quiet (fail)
    go_wp2_with fail
    go_ret
    exact ⟨by rw [decide_eq_true hin.out]; rfl, HL.out.trans ⟨nq, #[], by rw [grow_empty]⟩⟩
   ·have hnext := Lib.hid (Iset.not_take hy hnot.out hxy)
    obtain ⟨y1, y2⟩ := y
    simp only at c0 c1
    have hxy' : y1 = x1 → ¬ y2 = x2 := fun h k => hxy (by rw [h, k])
    clear hy hnot hxy
    by_cases h1 : y1 = x1
    ·have h2 := hxy' h1
     subst h1
     clear hxy'
     go_wp2_with fail
     go_quiet (fail)
     go_wp2_with fail
     exact ⟨⟨n + 1, by omega, by go_num, hnext, HLD.out.trans ⟨nq, #[], by rw [grow_empty]⟩⟩, by show l.length - ((n : Int) + 1).toNat < l.length - (n : Int).toNat; omega⟩
    ·clear hxy'
     go_wp2_with fail
     go_quiet (fail)
     go_wp2_with fail
     exact ⟨⟨n + 1, by omega, by go_num, hnext, HLD.out.trans ⟨nq, #[], by rw [grow_empty]⟩⟩, by show l.length - ((n : Int) + 1).toNat < l.length - (n : Int).toNat; omega⟩
  ·obtain rfl : n = l.length := by omega
   have hout : Hid (¬ (⟨x1, x2⟩ : Ver.V) ∈ l) := Lib.hid (by have := hnot.out; rwa [List.take_length] at this)
   clear hlaid hnot
   go_wp2_with fail
   go_ret
   exact ⟨by rw [decide_eq_false hout.out]; rfl, HL.out⟩
theorem ref_iof {w : World} {F : Nat → Prop} {v : Value} {l : List Ver.V} (h : Vrs w F v l) (hl : l.length ≤ 1000000) :
  Calls Tryz.prog 57 #[v] w fun e w' => ∃ v', e = .returned v' ∧ RowsOwn 33 2 verV w (Ver.sort l) v' w' := by
 obtain ⟨A, cap, rfl, hcap⟩ := h.parts
 have H := Lib.hid h
 have hl' : (l.length : Int) ≤ 1000000 := by omega
 have HLn := Lib.hid hl
 clear h
 go_enter Tryz.func57, Tryz.ntmps57
 go_wp2_with fail
 go_loopw [3, 4] (fun out i wr => ∃ n : Nat, n ≤ l.length ∧ i = .int .i64 (n : Int) ∧ Hid (RowsOwn 33 2 verV w (Ver.sort (l.take n)) out wr)) (fun _ i _ => l.length - (intOf i).toNat)
 case atStart => exact ⟨0, Nat.zero_le _, rfl, Lib.hid (by rw [List.take_zero]; exact RowsOwn.start _ _ _ _)⟩
 case round =>
  obtain ⟨n, hn, rfl, hown⟩ := hrel
  by_cases hlt : n < l.length
  ·obtain ⟨b, o, cap1, e, -, -, hb⟩ := H.out.block (by omega)
   injection e with e1 e2 e3
   subst e1 e3
   clear e2
   obtain ⟨y, hy⟩ : ∃ y, l[n]? = some y := ⟨_, List.getElem?_eq_getElem hlt⟩
   obtain ⟨c0, c1⟩ := Vrs.at (H.out.below hown.out.2) hy
   have hst := Lib.hid (Ver.sort_take l n y hy)
   have hn0 : (0 : Int) ≤ (n : Int) := by omega
   have hn1 : (n : Int) < (l.length : Int) := by omega
   have PU := Lib.hid (ref_put hown.out (by have := Ver.sort_len (l.take n); rw [List.length_take] at this; have := HLn.out; omega) y)
   clear hy
   go_wp2_with fail
   refine (PU.out).mono ?_
   rintro e w2 ⟨v2, rfl, h2⟩
   have H2 := Lib.hid h2
   clear h2
   go_wp2_with fail
   exact ⟨⟨n + 1, by omega, by go_num, by rw [hst.out]; exact H2⟩, by show l.length - ((n : Int) + 1).toNat < l.length - (n : Int).toNat; omega⟩
  ·obtain rfl : n = l.length := by omega
   rw [List.take_length] at hown
   go_wp2_with fail
   go_ret
   exact ⟨_, rfl, hown.out⟩
theorem ref_iminus {w : World} {F G : Nat → Prop} {u v : Value} {a b : List Ver.V} (h : Vrs w F u a) (k : Vrs w G v b) (hl : a.length ≤ 1000000) (hk : b.length ≤ 9000000) :
  Calls Tryz.prog 59 #[u, v] w fun e w' => ∃ v', e = .returned v' ∧ RowsOwn 33 2 verV w (Iset.minus a b) v' w' := by
 obtain ⟨A, cap, rfl, hcap⟩ := h.parts
 have H := Lib.hid h
 have hl' : (a.length : Int) ≤ 1000000 := by omega
 have HLn := Lib.hid hl
 have HA := Lib.hid (fun (W : World) (hW : Below w.heap.size w W) (x : Ver.V) => ref_ihas x (k.below hW) hk)
 clear h k
 go_enter Tryz.func59, Tryz.ntmps59
 go_wp2_with fail
 go_loopw [5, 6] (fun out i wr => ∃ n : Nat, n ≤ a.length ∧ i = .int .i64 (n : Int) ∧ Hid (RowsOwn 33 2 verV w (Iset.minus (a.take n) b) out wr)) (fun _ i _ => a.length - (intOf i).toNat)
 case atStart => exact ⟨0, Nat.zero_le _, rfl, Lib.hid (by rw [List.take_zero]; exact RowsOwn.start _ _ _ _)⟩
 case round =>
  obtain ⟨n, hn, rfl, hown⟩ := hrel
  by_cases hlt : n < a.length
  ·obtain ⟨bk, o, cap1, e, -, -, hb⟩ := H.out.block (by omega)
   injection e with e1 e2 e3
   subst e1 e3
   clear e2
   obtain ⟨y, hy⟩ : ∃ y, a[n]? = some y := ⟨_, List.getElem?_eq_getElem hlt⟩
   obtain ⟨c0, c1⟩ := Vrs.at (H.out.below hown.out.2) hy
   have hst := Lib.hid (Iset.minus_take a b n y hy)
   have hn0 : (0 : Int) ≤ (n : Int) := by omega
   have hn1 : (n : Int) < (a.length : Int) := by omega
   have HB := Lib.hid (HA.out _ hown.out.2 y)
   have Hy := Lib.hid hy
   clear hy
   by_cases hin : y ∈ b
   ·have hst : Hid (Iset.minus (a.take (n + 1)) b = Iset.minus (a.take n) b) := Lib.hid (by rw [hst.out, if_pos hin])
    rw [decide_eq_true hin] at HB
    clear hin
    go_wp2_with fail
    refine (HB.out).mono ?_
    rintro e w2 ⟨rfl, h2⟩
    have H2 := Lib.hid (hown.out.below h2.below)
    clear h2
    go_wp2_with fail
    exact ⟨⟨n + 1, by omega, by go_num, by rw [hst.out]; exact H2⟩, by show a.length - ((n : Int) + 1).toNat < a.length - (n : Int).toNat; omega⟩
   ·have hst : Hid (Iset.minus (a.take (n + 1)) b = Ver.put (Iset.minus (a.take n) b) y) := Lib.hid (by rw [hst.out, if_neg hin])
    rw [decide_eq_false hin] at HB
    clear hin c0 c1
    obtain ⟨c0, c1⟩ := Vrs.at (H.out.below hown.out.2) Hy.out
    go_wp2_with fail
    refine (HB.out).mono ?_
    rintro e w2 ⟨rfl, h2⟩
    have H2 := Lib.hid (hown.out.below h2.below)
    have PU := Lib.hid (ref_put H2.out (by have := Iset.minus_len (a.take n) b; rw [List.length_take] at this; have := HLn.out; omega) y)
    clear h2 c0 c1
    obtain ⟨c0, c1⟩ := Vrs.at (H.out.below H2.out.2) Hy.out
    go_wp2_with fail
    refine (PU.out).mono ?_
    rintro e w3 ⟨v3, rfl, h3⟩
    have H3 := Lib.hid h3
    clear h3
    go_wp2_with fail
    exact ⟨⟨n + 1, by omega, by go_num, by rw [hst.out]; exact H3⟩, by show a.length - ((n : Int) + 1).toNat < a.length - (n : Int).toNat; omega⟩
  ·obtain rfl : n = a.length := by omega
   rw [List.take_length] at hown
   go_wp2_with fail
   go_ret
   exact ⟨_, rfl, hown.out⟩
open Go.RowKit Go.Sort
structure FrBd (x : Know.Fr) : Prop where
 f : x.f.length ≤ 1000000
 pre : ∀ c ∈ x.f, c.pre.length ≤ 100000
 no : x.no.length ≤ 1000000
theorem fr_two15 (w : World) {r s : RFr} (hr : r.x.v.length = 65) (hs : s.x.v.length = 65) : ∃ W, W = (w.alloc (.cells (rfV r).toArray 31)).alloc (.cells (rfV s).toArray 31) ∧ FrAt W w.heap.size 0 r ∧ FrAt W (w.heap.size + 1) 0 s ∧ Laid w W := by
 refine ⟨_, rfl, (FrAt.made w hr _).below ((Below.refl _ _).alloc (Nat.le_refl _) _) (by simp), ?_, ((Laid.refl w).alloc _).alloc _⟩
 have := FrAt.made (w.alloc (.cells (rfV r).toArray 31)) hs 31
 rwa [World.size_alloc] at this
theorem minus_nil {a b : List Ver.V} : Iset.minus a b = [] ↔ ∀ e ∈ a, e ∈ b := by
 constructor
 ·intro h e he
  refine Classical.byContradiction (fun hb => ?_)
  have : e ∈ Iset.minus a b := Iset.minus_mem.2 ⟨he, hb⟩
  rw [h] at this; cases this
 ·intro h
  cases hm : Iset.minus a b with
  | nil => rfl
  | cons x l =>
   have := Iset.minus_mem.1 (show x ∈ Iset.minus a b by rw [hm]; exact List.mem_cons_self ..)
   exact absurd (h x this.1) this.2
theorem ref_khas {w : World} {F G : Nat → Prop} {r s : RFr} (hr : r.In w F) (hs : s.In w G) (br : FrBd r.x) (bs : FrBd s.x) :
  Calls Tryz.prog 26 #[frA r, frA s] w fun e w' => e = .returned (.bool (decide (Know.Incl r.x s.x))) ∧ Below w.heap.size w w' := by
 obtain ⟨W, hW, f0, f1, hL⟩ := fr_two15 w hr.len hs.len
 have CC := Lib.hid (fun W' => ref_vcovers W' hr.len hs.len)
 have CI := Lib.hid (fun (W' : World) (h : Below w.heap.size w W') => ref_iminus (hr.no.below h) (hs.no.below h) br.no (Nat.le_trans bs.no (by decide)))
 have CS := Lib.hid (fun (W' : World) (h : Below w.heap.size w W') => ref_subsumes (Rws.below hr.f h) (Rws.below hs.f h) br.f bs.f br.pre bs.pre)
 have V0 := Lib.hid f0.v0
 have V1 := Lib.hid f1.v0
 have FA := Lib.hid (fun (W' : World) (h : Below W.heap.size W W') => And.intro (f0.below h (by rw [hW]; simp; omega)) (f1.below h (by rw [hW]; simp)))
 have EI : Hid (decide (Know.Incl r.x s.x) = (decide (Cov.Subs r.x.f s.x.f) && (decide (Vec.Covers r.x.v s.x.v) && decide (Iset.minus r.x.no s.x.no = [])))) := Lib.hid (by
  rw [Bool.eq_iff_iff]
  simp only [Bool.and_eq_true, decide_eq_true_iff, minus_nil]
  exact Iff.rfl)
 obtain ⟨A0, a0, e0, -⟩ := hr.no.parts
 obtain ⟨A1, a1, e1, -⟩ := hs.no.parts
 obtain ⟨B0, b0, e2, -⟩ := hr.f.parts
 obtain ⟨B1, b1, e3, -⟩ := hs.f.parts
 have HL := Lib.hid hL.below
 clear hr hs f0 f1 hL
 rw [e0, e1] at CI
 rw [e2, e3] at CS
 have N : Hid (∀ W', Below W.heap.size W W' → W'.cell? ⟨w.heap.size, 66, none⟩ = some (.slice A0 r.x.no.length a0) ∧ W'.cell? ⟨w.heap.size + 1, 66, none⟩ = some (.slice A1 s.x.no.length a1) ∧ W'.cell? ⟨w.heap.size, 0, none⟩ = some (.slice B0 r.x.f.length b0) ∧ W'.cell? ⟨w.heap.size + 1, 0, none⟩ = some (.slice B1 s.x.f.length b1) ∧ Lies 28 W' w.heap.size 1 (vecL r.x.v) ∧ Lies 28 W' (w.heap.size + 1) 1 (vecL s.x.v)) := Lib.hid (fun W' h => by
  have := FA.out W' h
  rw [← e0, ← e1, ← e2, ← e3]
  exact ⟨this.1.no0, this.2.no0, this.1.f, this.2.f, this.1.v0, this.2.v0⟩)
 obtain ⟨d0, d1, d2, d3, -, -⟩ := N.out W (Below.refl _ _)
 have HW := Lib.hid hW
 clear e0 e1 e2 e3 FA br bs
 generalize decide (Vec.Covers r.x.v s.x.v) = p at *
 generalize decide (Cov.Subs r.x.f s.x.f) = t at *
 rw [hW] at d2 d3
 clear hW d0 d1 V0 V1
 go_enter Tryz.func26, Tryz.ntmps26
 go_wp2_with fail
 refine (CS.out _ (HW.out ▸ HL.out)).mono ?_
 rintro e w1 ⟨rfl, h1⟩
 have hb1 : Below W.heap.size W w1 := HW.out ▸ h1
 have H1 := Lib.hid (HL.out.trans (hb1.mono HL.out.size))
 have HB1 := Lib.hid hb1
 have V0 := Lib.hid (N.out _ hb1).2.2.2.2.1
 have V1 := Lib.hid (N.out _ hb1).2.2.2.2.2
 clear h1 hb1 d2 d3
 cases t
 ·go_wp2_with fail
  go_ret
  exact ⟨by (rw [EI.out]) <;> rfl, H1.out⟩
 ·go_wp2_with (first | refine wpList_mload (by rfl) _ (by rfl) (by rfl) V0.out ?_ | refine wpList_mload (by rfl) _ (by rfl) (by rfl) V1.out ?_)
  refine (CC.out _).mono ?_
  rintro e w2 ⟨rfl, h2⟩
  have hb2 := HB1.out.trans (h2.mono HB1.out.size)
  have H2 := Lib.hid (H1.out.trans (h2.mono H1.out.size))
  obtain ⟨d0, d1, -⟩ := N.out _ hb2
  clear h2 hb2 V0 V1
  cases p
  ·go_wp2_with fail
   go_ret
   exact ⟨by (rw [EI.out]) <;> rfl, H2.out⟩
  ·go_wp2_with fail
   refine (CI.out _ H2.out).mono ?_
   rintro e w3 ⟨v3, rfl, h3⟩
   have H3 := Lib.hid (H2.out.trans (h3.2.mono H2.out.size))
   obtain ⟨A3, c3, e3, -⟩ := (h3.rows (fun _ _ => rfl)).parts
   subst e3
   clear h3 d0 d1
   by_cases hz : Iset.minus r.x.no s.x.no = []
   ·have HZ := Lib.hid hz
    rw [hz, List.length_nil]
    clear hz
    go_wp2_with fail
    go_ret
    exact ⟨by (rw [EI.out, decide_eq_true HZ.out]) <;> rfl, H3.out⟩
   ·have hpos : (((Iset.minus r.x.no s.x.no).length : Int) == 0) = false := by
     cases hh : Iset.minus r.x.no s.x.no with
     | nil => exact absurd hh hz
     | cons a t => rw [List.length_cons]; simp; omega
    have HZ := Lib.hid hz
    clear hz
    go_wp2_with fail
    go_ret
    exact ⟨by (rw [EI.out, decide_eq_false HZ.out]) <;> rfl, H3.out⟩
open Go.RowKit Go.Sort
theorem vec_clean (w : World) {v : List Int} (hv : v.length = 65) : Calls Tryz.prog 114 #[vecA v] w fun e w' => e = .returned (vecA (Vec.clean v)) ∧ Laid w w' := by
 have hz := vecZero
 have hb1 : VRow ((w.alloc (.cells (vecR v) 28)).alloc (.cells (vecR Vec.zeros) 28)) w.heap.size v := (VRow.made w hv).alloc _
 have hb2 : VRow ((w.alloc (.cells (vecR v) 28)).alloc (.cells (vecR Vec.zeros) 28)) (w.heap.size + 1) Vec.zeros := by
  have := VRow.made (w.alloc (.cells (vecR v) 28)) (v := Vec.zeros) Vec.zeros_len
  rwa [World.size_alloc] at this
 have HB1 := Lib.hid hb1
 have HB2 := Lib.hid hb2
 have HL0 : Hid (Laid w ((w.alloc (.cells (vecR v) 28)).alloc (.cells (vecR Vec.zeros) 28))) := Lib.hid ((Laid.new w _).alloc _)
 have HV := Lib.hid hv
 clear hv hb1 hb2
 go_enter Tryz.func114, Tryz.ntmps114
 go_wp2_with (refine wpList_vload (by rfl) _ (by rfl) (by rfl) HB1.out ?_)
 go_loopw [6] (fun i wr => ∃ k : Nat, k ≤ 65 ∧ i = .int .i64 (k : Int) ∧ VRow wr w.heap.size (Vec.part (fun i => max ((v[i]?).getD 0) 0) v k) ∧ VRow wr (w.heap.size + 1) Vec.zeros ∧ Laid w wr) (fun i _ => 65 - (intOf i).toNat)
 case atStart => exact ⟨0, Nat.zero_le _, rfl, by rw [Vec.part_zero]; exact HB1.out, HB2.out, HL0.out⟩
 case round =>
  obtain ⟨k, hk, rfl, h1, h2, h3⟩ := hrel
  by_cases hlt : k < 65
  ·obtain ⟨n, hn⟩ : ∃ n, v[k]? = some n := ⟨_, List.getElem?_eq_getElem (by rw [HV.out]; exact hlt)⟩
   have hix := vec_index hlt hn
   have had := vec_addr hlt w.heap.size
   have hc := h1.at (i := k) (n := n) (by rw [Vec.part_ge _ _ (by omega) (Nat.le_refl k)]; exact hn)
   have hf := h1.free k
   have hk0 : (0 : Int) ≤ (k : Int) := by omega
   have hk1 : (k : Int) < 65 := by omega
   have HN := Lib.hid hn
   have H1 := Lib.hid h1
   have H2 := Lib.hid h2
   have H3 := Lib.hid h3
   clear hn h1 h2 h3
   go_wp2_with fail
   have e : (Vec.part (fun i => max ((v[i]?).getD 0) 0) v k).set k (if n < 0 then 0 else n) = Vec.part (fun i => max ((v[i]?).getD 0) 0) v (k + 1) := by
    rw [← Vec.part_set _ HV.out hlt, HN.out]
    congr 1
    show _ = max n 0
    split <;> omega
   have h1 := H1.out.stored k (if n < 0 then 0 else n)
   rw [e] at h1
   have em : (if n < 0 then 0 else n) = max n 0 := by split <;> omega
   first
    | exact ⟨⟨k + 1, by omega, rfl, h1, H2.out.storedElsewhere (by simp) _, H3.out.stored (Nat.le_refl _) _⟩, by show 65 - ((k : Int) + 1).toNat < 65 - (k : Int).toNat; omega⟩
    | (rw [em] at h1; exact ⟨⟨k + 1, by omega, rfl, h1, H2.out.storedElsewhere (by simp) _, H3.out.stored (Nat.le_refl _) _⟩, by show 65 - ((k : Int) + 1).toNat < 65 - (k : Int).toNat; omega⟩)
  ·obtain rfl : k = 65 := by omega
   rw [Vec.part_all _ HV.out] at h1
   have had : ∀ W : World, (Instr.indexAt 28 (.pointer (some ⟨w.heap.size, 0, none⟩)) (.int .i64 0)).run Tryz.prog W = .ok (.pointer (some ⟨w.heap.size, 0, none⟩)) W := fun W => vec_addr (k := 0) (by omega) _ W
   have hc := h1.at (Vec.make_at _ 0 (by omega))
   have hf := h1.free 0
   have h4 := h1.stored 0 0
   rw [Vec.clean_set] at h4
   have H4 := Lib.hid h4
   have h5 : VRow (wr.setCell ⟨w.heap.size, 0, none⟩ (.int .i64 0)) (w.heap.size + 1) Vec.zeros := h2.storedElsewhere (by simp) _
   have H5 := Lib.hid h5
   have H6 : Hid (Laid w (wr.setCell ⟨w.heap.size, 0, none⟩ (.int .i64 0))) := Lib.hid (h3.stored (Nat.le_refl _) _)
   have Hc : Hid ((Vec.clean v).length = 65) := Lib.hid (Vec.clean_len v)
   clear h1 h2 h3 h4 h5
   generalize (max ((v[0]?).getD 0) 0) = n0 at *
   go_wp2_with (first | refine wpList_vload (by rfl) _ (by rfl) (by rfl) H4.out ?_ | refine wpList_vstore (by rfl) _ _ (by rfl) (by rfl) (by rfl) H5.out Hc.out ?_)
   exact bodyPost_ret (v := vecA (Vec.clean v)) (results_cell_row (by rfl) _ _ (w.heap.size + 1) 28 _ (0, 0) _ (by rfl) (H5.out.set _ Hc.out).row Tryz.underlying28 rfl (vecSize Hc.out)) rfl ⟨rfl, H6.out.set (Nat.le_succ _) _⟩
open Go.RowKit Go.Sort
theorem ver_counts (w : World) (n : Int) (h : n ≤ 9223372036854775807) : Calls Tryz.prog 89 #[.int .i64 n] w fun e w' => e = .returned (.bool (decide ((1 : Int) ≤ n))) ∧ w = w' := by
 by_cases h1 : (1 : Int) ≤ n
 ·have E : Hid (decide ((1 : Int) ≤ n) = true) := Lib.hid (decide_eq_true h1)
  go_enter Tryz.func89, Tryz.ntmps89
  go_wp2_with fail
  go_ret
  exact ⟨by rw [E.out]; first | rfl | (simp; omega), rfl⟩
 ·have E : Hid (decide ((1 : Int) ≤ n) = false) := Lib.hid (decide_eq_false h1)
  go_enter Tryz.func89, Tryz.ntmps89
  go_wp2_with fail
  go_ret
  exact ⟨by rw [E.out]; first | rfl | (simp; omega), rfl⟩
theorem ver_check (w : World) (v : Ver.V) (hb : Ver.Bd v) : Calls Tryz.prog 61 #[verA v] w fun e w' => e = .returned (.int .i64 (Ver.checkV v)) ∧ Laid w w' := by
 have L := Lib.hid (laid_one w)
 obtain ⟨x, y⟩ := v
 have CO := Lib.hid (fun W => ver_counts W y (by have := hb.2; unfold Ver.I64 at this; exact this.2))
 have E0 : Hid (Ver.checkV ⟨x, y⟩ = if (1 : Int) ≤ x ∧ x ≤ 64 ∧ (1 : Int) ≤ y then 0 else 2) := Lib.hid rfl
 clear hb
 by_cases h1 : x < 1
 ·have E : Hid (Ver.checkV ⟨x, y⟩ = 2) := Lib.hid (by rw [E0.out, if_neg (by omega)])
  go_enter Tryz.func61, Tryz.ntmps61
  go_wp2_with fail
  go_ret
  exact ⟨by rw [E.out]; rfl, L.out _⟩
 ·by_cases h2 : 64 < x
  ·have E : Hid (Ver.checkV ⟨x, y⟩ = 2) := Lib.hid (by rw [E0.out, if_neg (by omega)])
   go_enter Tryz.func61, Tryz.ntmps61
   go_wp2_with fail
   go_ret
   exact ⟨by rw [E.out]; rfl, L.out _⟩
  ·by_cases h3 : (1 : Int) ≤ y
   ·have E : Hid (Ver.checkV ⟨x, y⟩ = 0) := Lib.hid (by rw [E0.out, if_pos (by omega)])
    have CO : Hid (∀ W, Calls Tryz.prog 89 #[.int .i64 y] W fun e w' => e = .returned (.bool true) ∧ W = w') := Lib.hid (fun W => by have := CO.out W; rwa [decide_eq_true h3] at this)
    go_enter Tryz.func61, Tryz.ntmps61
    go_wp2_with (go_at_call 89; refine (CO.out _).mono ?_; rintro e w' ⟨rfl, rfl⟩)
    go_ret
    exact ⟨by rw [E.out]; rfl, L.out _⟩
   ·have E : Hid (Ver.checkV ⟨x, y⟩ = 2) := Lib.hid (by rw [E0.out, if_neg (by omega)])
    have CO : Hid (∀ W, Calls Tryz.prog 89 #[.int .i64 y] W fun e w' => e = .returned (.bool false) ∧ W = w') := Lib.hid (fun W => by have := CO.out W; rwa [decide_eq_false h3] at this)
    go_enter Tryz.func61, Tryz.ntmps61
    go_wp2_with (go_at_call 89; refine (CO.out _).mono ?_; rintro e w' ⟨rfl, rfl⟩)
    go_ret
    exact ⟨by rw [E.out]; rfl, L.out _⟩
open Go.RowKit Go.Sort
def Vec.putv (v : List Int) (x : Ver.V) : List Int := if Ver.Right x then v.set x.by_.toNat (max ((v[x.by_.toNat]?).getD 0) x.n) else v
theorem Vec.putv_up {v : List Int} (h : Vec.Plain v) (x : Ver.V) : Vec.putv v x = Vec.up v x := by
 unfold Vec.putv
 by_cases hx : Ver.Right x
 ·have hr := hx
  unfold Ver.Right at hr
  rw [if_pos hx, h.2 _ (by omega)]
  exact Vec.up_max h hx (h.2 _ (by omega))
 ·rw [if_neg hx, Vec.up_no (fun k => hx k.1)]
theorem vec_put {a w : World} {b : Nat} {v : List Int} (x : Ver.V) (hx : Ver.Bd x) (h : VRow w b v) (hl : Laid a w) (hb : a.heap.size ≤ b) : Calls Tryz.prog 51 #[.pointer (some ⟨b, 0, none⟩), verA x] w fun e w' => e = .returned (.tuple #[]) ∧ VRow w' b (Vec.putv v x) ∧ Laid a w' ∧ ∀ c u, c ≠ b → VRow w c u → VRow w' c u := by
 have CH := Lib.hid (fun W => ver_check W x hx)
 have hlt := h.inHeap
 have F := Lib.hid (show ∀ w1, Laid (w.alloc (.cells #[.int .i64 x.by_, .int .i64 x.n] 33)) w1 → w1.cell? ⟨w.heap.size, 0, none⟩ = some (.int .i64 x.by_) ∧ w1.cell? ⟨w.heap.size, 1, none⟩ = some (.int .i64 x.n) ∧ VRow w1 b v ∧ Laid a w1 ∧ (∀ c u, VRow w c u → VRow w1 c u) from fun w1 h1 => by
  have hr := (Row.made w 33 #[.int .i64 x.by_, .int .i64 x.n]).below h1.below (by simp)
  exact ⟨hr.at 0, hr.at 1, (h.alloc _).below h1.below (by simp; omega), (hl.alloc _).trans h1, fun c u hc => (hc.alloc _).below h1.below (by have := hc.inHeap; simp; omega)⟩)
 by_cases hr : Ver.Right x
 ·have e : Ver.checkV x = 0 := if_pos hr
  rw [e] at CH
  have ep : Hid (Vec.putv v x = v.set x.by_.toNat (max ((v[x.by_.toNat]?).getD 0) x.n)) := Lib.hid (if_pos hr)
  obtain ⟨k, hk, hk2⟩ : ∃ k : Nat, x.by_ = (k : Int) ∧ 1 ≤ k ∧ k ≤ 64 := by
   unfold Ver.Right at hr
   exact ⟨x.by_.toNat, by omega, by omega⟩
  obtain ⟨n, hn⟩ : ∃ n, v[k]? = some n := ⟨_, List.getElem?_eq_getElem (by rw [h.len]; omega)⟩
  rw [hk, Int.toNat_natCast, hn] at ep
  obtain ⟨x1, x2⟩ := x
  simp only at hk CH F ep
  subst hk
  have Hn := Lib.hid hn
  have HB := Lib.hid hb
  have Hk := Lib.hid hk2
  have hne : ¬ w.heap.size = b := by omega
  clear h hl hb hx hr e hn hk2 hlt
  go_enter Tryz.func51, Tryz.ntmps51
  go_wp2_with (go_at_call 61; refine (CH.out _).mono ?_; rintro e w1 ⟨rfl, hL⟩)
  obtain ⟨c0, c1, c2, c3, c4⟩ := F.out _ hL
  have cv := c2.at Hn.out
  have cf := c2.free k
  have had := vec_addr (k := k) (by have := Hk.out; omega) b
  have C2 := Lib.hid c2
  have C3 := Lib.hid c3
  have C4 := Lib.hid c4
  clear c2 c3 c4 hL
  refine wp_region_tail (n := 13) (S := (fun w' : World => w' = w1.drew)) (by kernel_rfl) (by kernel_rfl) (by rfl) rfl (fun hHeld => ?_)
  refine wpAnyH_tk (i := 0) (v := ?_) rfl (Or.inl ⟨by rfl, (by intro w hSw; subst hSw; go_simp; try with_reducible rfl)⟩) (by assumption) ?_
  simp only [zz]
  refine wpAnyH_tk (i := 1) (v := ?_) rfl (Or.inl ⟨by rfl, (by intro w hSw; subst hSw; go_simp; try with_reducible rfl)⟩) (by assumption) ?_
  simp only [zz]
  refine wpAnyH_tk (i := 2) (v := ?_) rfl (Or.inl ⟨by rfl, (by intro w hSw; subst hSw; go_simp; try with_reducible rfl)⟩) (by assumption) ?_
  simp only [zz]
  refine wpAnyH_tk (i := 3) (v := ?_) rfl (Or.inl ⟨by rfl, (by intro w hSw; subst hSw; go_simp; try with_reducible rfl)⟩) (by assumption) ?_
  simp only [zz]
  refine wpAnyH_tk (i := 4) (v := ?_) rfl (Or.inl ⟨by rfl, (by intro w hSw; subst hSw; go_simp; try with_reducible rfl)⟩) (by assumption) ?_
  simp only [zz]
  refine wpAnyH_tk (i := 5) (v := ?_) rfl (Or.inl ⟨by rfl, (by intro w hSw; subst hSw; go_simp; try with_reducible rfl)⟩) (by assumption) ?_
  simp only [zz]
  refine wpAnyH_tk (i := 6) (v := ?_) rfl (Or.inl ⟨by rfl, (by intro w hSw; subst hSw; go_simp; try with_reducible rfl)⟩) (by assumption) ?_
  simp only [zz]
  refine wpAnyH_tk (i := 7) (v := ?_) rfl (Or.inl ⟨by rfl, (by intro w hSw; subst hSw; go_simp; try with_reducible rfl)⟩) (by assumption) ?_
  simp only [zz]
  refine wpAnyH_tk (i := 8) (v := ?_) rfl (Or.inl ⟨by rfl, (by intro w hSw; subst hSw; go_simp; try with_reducible rfl)⟩) (by assumption) ?_
  simp only [zz]
  refine wpAnyH_tk (i := 9) (v := ?_) rfl (Or.inl ⟨by rfl, (by intro w hSw; subst hSw; go_simp; try with_reducible rfl)⟩) (by assumption) ?_
  simp only [zz]
  refine wpAnyH_tk (i := 10) (v := ?_) rfl (Or.inl ⟨by rfl, (by intro w hSw; subst hSw; go_simp; try with_reducible rfl)⟩) (by assumption) ?_
  simp only [zz]
  refine wpAnyH_tk (i := 11) (v := ?_) rfl (Or.inl ⟨by rfl, (by intro w hSw; subst hSw; go_simp; try with_reducible rfl)⟩) (by assumption) ?_
  simp only [zz]
  refine wpAnyH_tk (i := 12) (v := ?_) rfl (Or.inl ⟨by rfl, (by intro w hSw; subst hSw; go_simp; try with_reducible rfl)⟩) (by assumption) ?_
  simp only [zz]
  refine wpAnyH_done (by kernel_rfl) ?_ _
  refine wpAny_of_held (S := fun _ => True) _ _ _ _ ?_
  have hHeld : True := trivial
  refine wpAnyH_td (i := 13) rfl ?_
  simp only [zz]
  refine wpAnyH_ready (rs := [14]) (by kernel_rfl) (by simp) ?_
  refine AllReadyH.cons rfl (fun K hK => ?_) AllReadyH.nil
  go_simp
  refine hK.out _ _ trivial (fun hHeld => ?_)
  clear hK K
  refine wpAnyH_done (by kernel_rfl) ?_ _
  have h1 := C2.out.stored k (max n x2)
  exact Go.Great.bodyPost_end0 rfl rfl ⟨rfl, by rw [ep.out]; exact h1, (C3.out.stored HB.out _).drew, fun c u hc hu => (C4.out c u hu).storedElsewhere (fun e => hc e.symm) _⟩
 ·have e : Ver.checkV x = 2 := if_neg hr
  rw [e] at CH
  have ep : Hid (Vec.putv v x = v) := Lib.hid (if_neg hr)
  obtain ⟨x1, x2⟩ := x
  simp only at CH F ep
  clear h hl hb hx hr e hlt
  go_enter Tryz.func51, Tryz.ntmps51
  go_wp2_with (go_at_call 61; refine (CH.out _).mono ?_; rintro e w1 ⟨rfl, hL⟩; have F1 := Lib.hid (F.out _ hL); clear hL)
  exact Go.Great.bodyPost_end0 rfl rfl ⟨rfl, by rw [ep.out]; exact F1.out.2.2.1, F1.out.2.2.2.1, fun c u _ hu => F1.out.2.2.2.2 c u hu⟩
theorem vec_of {w : World} {F : Nat → Prop} {s : Value} {l : List Ver.V} (h : Vrs w F s l) (hl : l.length ≤ 1000000) (hb : ∀ x ∈ l, Ver.Bd x) : Calls Tryz.prog 21 #[s] w fun e w' => e = .returned (vecA (Vec.ofl l)) ∧ Laid w w' := by
 have hz := vecZero
 obtain ⟨A, c, rfl, hc⟩ := h.parts
 have hb1 : VRow ((w.alloc (.cells (vecR Vec.zeros) 28)).alloc (.cells (vecR Vec.zeros) 28)) w.heap.size Vec.zeros := (VRow.made w Vec.zeros_len).alloc _
 have hb2 : VRow ((w.alloc (.cells (vecR Vec.zeros) 28)).alloc (.cells (vecR Vec.zeros) 28)) (w.heap.size + 1) Vec.zeros := by
  have := VRow.made (w.alloc (.cells (vecR Vec.zeros) 28)) (v := Vec.zeros) Vec.zeros_len
  rwa [World.size_alloc] at this
 have HL0 : Hid (Laid w ((w.alloc (.cells (vecR Vec.zeros) 28)).alloc (.cells (vecR Vec.zeros) 28))) := Lib.hid ((Laid.new w _).alloc _)
 have HB1 := Lib.hid hb1
 have HB2 := Lib.hid hb2
 have H := Lib.hid h
 have HBd := Lib.hid hb
 have hl' : (l.length : Int) ≤ 1000000 := by omega
 clear h hb hb1 hb2
 go_enter Tryz.func21, Tryz.ntmps21
 go_wp2_with fail
 go_loopw [8] (fun i wr => ∃ k : Nat, k ≤ l.length ∧ i = .int .i64 (k : Int) ∧ VRow wr w.heap.size Vec.zeros ∧ VRow wr (w.heap.size + 1) (Vec.ofl (l.take k)) ∧ Laid w wr) (fun i _ => l.length - (intOf i).toNat)
 case atStart => exact ⟨0, Nat.zero_le _, rfl, HB1.out, by rw [List.take_zero]; exact HB2.out, HL0.out⟩
 case round =>
  obtain ⟨k, hk, rfl, h1, h2, h3⟩ := hrel
  by_cases hlt : k < l.length
  ·obtain ⟨b, o, cap, e, -, -, hb⟩ := H.out.block (by omega)
   injection e with e1 e2 e3
   subst e1 e3
   clear e2
   obtain ⟨x, hx⟩ : ∃ x, l[k]? = some x := ⟨_, List.getElem?_eq_getElem hlt⟩
   obtain ⟨c0, c1⟩ := Vrs.at (H.out.below h3.below) hx
   have hk0 : (0 : Int) ≤ (k : Int) := by omega
   have hk1 : (k : Int) < (l.length : Int) := by omega
   have e : Hid (Vec.putv (Vec.ofl (l.take k)) x = Vec.ofl (l.take (k + 1))) := Lib.hid (by rw [Vec.putv_up (Vec.ofl_plain _), Vec.ofl_take l k x hx])
   have hxb := HBd.out x (List.mem_of_getElem? hx)
   have PU := Lib.hid (vec_put (a := w) x hxb (h2.alloc (.cells #[.int .i64 x.by_, .int .i64 x.n] 33)) (h3.alloc _) (Nat.le_succ _))
   have K1 := Lib.hid (fun W' (hb : Laid w W') => hb)
   have H1 := Lib.hid (h1.alloc (.cells #[.int .i64 x.by_, .int .i64 x.n] 33))
   obtain ⟨x1, x2⟩ := x
   simp only at c0 c1 PU H1
   clear h1 h2 h3 hx hxb
   go_wp2_with fail
   refine PU.out.mono ?_
   rintro e w1 ⟨rfl, h4, h5, h6⟩
   have H4 : Hid (VRow w1 (w.heap.size + 1) (Vec.ofl (l.take (k + 1)))) := Lib.hid (by rw [← e.out]; exact h4)
   have H5 := Lib.hid h5
   have H6 : Hid (VRow w1 w.heap.size Vec.zeros) := Lib.hid (h6 _ _ (by omega) H1.out)
   clear h4 h5 h6
   go_wp2_with fail
   exact ⟨⟨k + 1, by omega, rfl, H6.out, H4.out, H5.out⟩, by show l.length - ((k : Int) + 1).toNat < l.length - (k : Int).toNat; omega⟩
  ·obtain rfl : k = l.length := by omega
   rw [List.take_length] at h2
   have H1 := Lib.hid h1
   have H2 := Lib.hid h2
   have H3 := Lib.hid h3
   have Hc : Hid ((Vec.ofl l).length = 65) := Lib.hid (Vec.ofl_plain l).1
   clear h1 h2 h3
   go_wp2_with (first | refine wpList_vload (by rfl) _ (by rfl) (by rfl) H2.out ?_ | refine wpList_vstore (by rfl) _ _ (by rfl) (by rfl) (by rfl) H1.out Hc.out ?_)
   exact bodyPost_ret (v := vecA (Vec.ofl l)) (results_cell_row (by rfl) _ _ w.heap.size 28 _ (0, 0) _ (by rfl) (H1.out.set _ Hc.out).row Tryz.underlying28 rfl (vecSize Hc.out)) rfl ⟨rfl, H3.out.set (Nat.le_refl _) _⟩
end Go.Proofs.YtkcgmnhjofoeiaaGreat
