import Derived.Test.YtpafpegcodempaaGreatCom7
import Derived.Test.YtpafpegcodempaaGreatCom11
import Derived.Test.YtpafpegcodempaaGreatCom8
import Derived.Test.YtpafpegcodempaaGreatCom21
import Derived.Test.YtpafpegcodempaaGreatCom4
import Derived.Test.YtpafpegcodempaaGreatCom5
import Derived.Great.Walk
import Derived.Laws.CopyOwn
set_option maxRecDepth 100000
set_option linter.all false
set_option maxHeartbeats 12800000
namespace Go.Proofs.YtpafpegcodempaaGreat
open Go.RowKit Go.Sort
theorem ref_vsame {w : World} {F G : Nat → Prop} {u v : Value} {a b : List Ver.V} (ha : Vrs w F u a) (hb : Vrs w G v b) (la : a.length ≤ 1000000) (lb : b.length ≤ 1000000) :
  Calls Tryz.prog 63 #[u, v] w fun e w' => e = .returned (.bool (decide (a = b))) ∧ Below w.heap.size w w' := by
 obtain ⟨A, ca, rfl, hca⟩ := ha.parts
 obtain ⟨B, cb, rfl, hcb⟩ := hb.parts
 have HA := Lib.hid ha
 have HB := Lib.hid hb
 have la' : (a.length : Int) ≤ 1000000 := by omega
 have lb' : (b.length : Int) ≤ 1000000 := by omega
 clear ha hb
 by_cases hlen : a.length = b.length
 ·rw [← hlen]
  rw [← hlen] at HB
  have Hlen := Lib.hid hlen
  clear hlen
  go_enter Tryz.func63, Tryz.ntmps63
  go_wp2_with fail
  go_loopw [5] (fun i wr => ∃ n : Nat, n ≤ a.length ∧ i = .int .i64 (n : Int) ∧ Hid (a.take n = b.take n) ∧ Below w.heap.size w wr) (fun i _ => a.length - (intOf i).toNat)
  case atStart => exact ⟨0, Nat.zero_le _, rfl, Lib.hid (by rw [List.take_zero, List.take_zero]), Below.refl _ _⟩
  case round =>
   obtain ⟨n, hn, rfl, hsame, hbel⟩ := hrel
   by_cases hlt : n < a.length
   ·obtain ⟨b1, o1, cap1, e, -, -, hb1⟩ := HA.out.block (by omega)
    injection e with e1 e2 e3
    subst e1 e3
    obtain ⟨b2, o2, cap2, e, -, -, hb2⟩ := HB.out.block (by have := Hlen.out; omega)
    injection e with e1 e2 e3
    subst e1 e3
    clear e2
    obtain ⟨x, hx⟩ : ∃ x, a[n]? = some x := ⟨_, List.getElem?_eq_getElem hlt⟩
    obtain ⟨y, hy⟩ : ∃ y, b[n]? = some y := ⟨_, List.getElem?_eq_getElem (show n < b.length by have := Hlen.out; omega)⟩
    obtain ⟨c0, c1⟩ := Vrs.at (HA.out.below hbel) hx
    obtain ⟨d0, d1⟩ := Vrs.at (HB.out.below hbel) hy
    have hn0 : (0 : Int) ≤ (n : Int) := by omega
    have hn1 : (n : Int) < (a.length : Int) := by omega
    have Hbel := Lib.hid hbel
    clear hbel
    by_cases hxy : x = y
    ·subst hxy
     have hnext : Hid (a.take (n + 1) = b.take (n + 1)) := Lib.hid (by
      obtain ⟨h1, e1⟩ := List.getElem?_eq_some_iff.1 hx
      obtain ⟨h2, e2⟩ := List.getElem?_eq_some_iff.1 hy
      rw [List.take_succ_eq_append_getElem h1, List.take_succ_eq_append_getElem h2, e1, e2, hsame.out])
     obtain ⟨x1, x2⟩ := x
     simp only at c0 c1 d0 d1
     clear hx hy hsame
     go_wp2_with fail
     go_quiet (fail)
     go_wp2_with fail
     refine ⟨⟨n + 1, by omega, rfl, hnext, Hbel.out.trans ((ver_drews wr nq).mono Hbel.out.size)⟩, ?_⟩
     show a.length - ((n : Int) + 1).toNat < a.length - (n : Int).toNat
     omega
    ·have hne : Hid (¬ a = b) := Lib.hid (fun e => hxy (by rw [e, hy] at hx; injection hx with hx; exact hx.symm))
     obtain ⟨x1, x2⟩ := x
     obtain ⟨y1, y2⟩ := y
     simp only at c0 c1 d0 d1
     have hxy' : x1 = y1 → ¬ x2 = y2 := fun h k => hxy (by rw [h, k])
     clear hx hy hsame hxy
     by_cases h1 : x1 = y1
     ·have h2 := hxy' h1
      subst h1
      clear hxy'
      go_wp2_with fail
      go_quiet (fail)
      go_wp2_with fail
      go_ret
      exact ⟨by rw [decide_eq_false hne.out]; rfl, Hbel.out.trans ((ver_drews wr nq).mono Hbel.out.size)⟩
     ·clear hxy'
      go_wp2_with fail
      go_quiet (fail)
      go_wp2_with fail
      go_ret
      exact ⟨by rw [decide_eq_false hne.out]; rfl, Hbel.out.trans ((ver_drews wr nq).mono Hbel.out.size)⟩
   ·obtain rfl : n = a.length := by omega
    have hab : Hid (a = b) := Lib.hid (by
     have := hsame.out
     rw [List.take_length, Hlen.out, List.take_length] at this
     exact this)
    have Hbel := Lib.hid hbel
    clear hbel hsame
    go_wp2_with fail
    go_ret
    exact ⟨by rw [decide_eq_true hab.out]; rfl, Hbel.out⟩
 ·have hlen' : ¬ ((a.length : Nat) : Int) = ((b.length : Nat) : Int) := by omega
  have hne : Hid (¬ a = b) := Lib.hid (fun e => hlen (by rw [e]))
  clear hlen
  go_enter Tryz.func63, Tryz.ntmps63
  go_wp2_with fail
  go_ret
  exact ⟨by rw [decide_eq_false hne.out]; rfl, Below.refl _ _⟩
open Go.RowKit Go.Sort
theorem Iset.not_take {l : List Ver.V} {x y : Ver.V} {n : Nat} (hy : l[n]? = some y) (h : x ∉ l.take n) (hne : y ≠ x) : x ∉ l.take (n + 1) := by
 obtain ⟨h1, e1⟩ := List.getElem?_eq_some_iff.1 hy
 rw [List.take_succ_eq_append_getElem h1, e1]
 intro hx
 rcases List.mem_append.1 hx with hx | hx
 ·exact h hx
 ·exact hne (List.mem_singleton.1 hx).symm
theorem iset_boxed (w : World) (x1 x2 : Int) : ∀ W, Laid (w.alloc (.cells #[.int .i64 x1, .int .i64 x2] 51)) W → W.cell? ⟨w.heap.size, 0, none⟩ = some (.int .i64 x1) ∧ W.cell? ⟨w.heap.size, 1, none⟩ = some (.int .i64 x2) := fun W hW =>
 ⟨(hW.below.cell (p := ⟨w.heap.size, 0, none⟩) (by simp)).trans ((Row.made w 51 #[.int .i64 x1, .int .i64 x2]).at 0), (hW.below.cell (p := ⟨w.heap.size, 1, none⟩) (by simp)).trans ((Row.made w 51 #[.int .i64 x1, .int .i64 x2]).at 1)⟩
theorem ref_iof {w : World} {F : Nat → Prop} {v : Value} {l : List Ver.V} (h : Vrs w F v l) (hl : l.length ≤ 1000000) :
  Calls Tryz.prog 138 #[v] w fun e w' => ∃ v', e = .returned v' ∧ RowsOwn 51 2 verV w (Ver.sort l) v' w' := by
 obtain ⟨A, cap, rfl, hcap⟩ := h.parts
 have H := Lib.hid h
 have hl' : (l.length : Int) ≤ 1000000 := by omega
 have HLn := Lib.hid hl
 clear h
 go_enter Tryz.func138, Tryz.ntmps138
 go_wp2_with fail
 go_loopw [3, 4] (fun out i wr => ∃ n : Nat, n ≤ l.length ∧ i = .int .i64 (n : Int) ∧ Hid (RowsOwn 51 2 verV w (Ver.sort (l.take n)) out wr)) (fun _ i _ => l.length - (intOf i).toNat)
 case atStart => exact ⟨0, Nat.zero_le _, rfl, Lib.hid (by rw [List.take_zero]; exact RowsOwn.start _ _ _ _)⟩
 case round =>
  obtain ⟨n, hn, rfl, hown⟩ := hrel
  by_cases hlt : n < l.length
  ·obtain ⟨b, o, cap1, e, -, -, hb⟩ := H.out.block (by omega)
   injection e with e1 e2 e3
   subst e1 e3
   clear e2
   obtain ⟨y, hy⟩ : ∃ y, l[n]? = some y := ⟨_, List.getElem?_eq_getElem hlt⟩
   obtain ⟨c0, c1⟩ := Vrs.at (H.out.below hown.out.2) hy
   have hst := Lib.hid (Ver.sort_take l n y hy)
   have hn0 : (0 : Int) ≤ (n : Int) := by omega
   have hn1 : (n : Int) < (l.length : Int) := by omega
   have PU := Lib.hid (ref_put hown.out (by have := Ver.sort_len (l.take n); rw [List.length_take] at this; have := HLn.out; omega) y)
   clear hy
   go_wp2_with fail
   refine (PU.out).mono ?_
   rintro e w2 ⟨v2, rfl, h2⟩
   have H2 := Lib.hid h2
   clear h2
   go_wp2_with fail
   exact ⟨⟨n + 1, by omega, by go_num, by rw [hst.out]; exact H2⟩, by show l.length - ((n : Int) + 1).toNat < l.length - (n : Int).toNat; omega⟩
  ·obtain rfl : n = l.length := by omega
   rw [List.take_length] at hown
   go_wp2_with fail
   go_ret
   exact ⟨_, rfl, hown.out⟩
open Go.RowKit Go.Sort
theorem ref_pvers {w : World} {F : Nat → Prop} {v : Value} {l : List (Ver.V)} (h : Vrs w F v l) (hl : l.length ≤ 100000) (hb : ∀ x ∈ l, Ver.Bd x) :
  Calls Tryz.prog 89 #[v] w fun e w' => e = .returned (.string (mk (Pck.lst Pck.verR l))) ∧ Below w.heap.size w w' := by
 have mixed : Tryz.prog.follows .mixedOrders = true := by kernel_rfl
 obtain ⟨A, cap, rfl, hcap⟩ := h.parts
 have H := Lib.hid h
 have hl' : (l.length : Int) ≤ 100000 := by omega
 have HB := Lib.hid hb
 have HL := Lib.hid hl
 have HLN := Lib.hid (fun n : Nat => Pck.acc_len (f := Pck.verR) (l := l) (m := 18) (k := 100000) (fun y hy => (fun y (_ : Ver.Bd y) => Pck.verR_len y) y (hb y hy)) hl n)
 have NU : Hid (∀ W : World, Calls Tryz.prog 68 #[.int .i64 (l.length : Int)] W fun e w' => e = .returned (.string (mk (Pck.acc Pck.verR l 0))) ∧ Below W.heap.size W w') := Lib.hid (fun W => by have := ref_num (l.length : Int) ⟨by omega, by omega⟩ W; rwa [Pck.acc_zero Pck.verR l] at this)
 clear h hl hb hcap
 go_enter Tryz.func89, Tryz.ntmps89
 go_wp2_with fail
 refine (NU.out _).mono ?_
 rintro e w1 ⟨rfl, b1⟩
 have B1 := Lib.hid b1
 clear b1
 go_wp2_with fail
 go_loopw [3, 4] (fun s i wr => ∃ n : Nat, n ≤ l.length ∧ i = .int .i64 (n : Int) ∧ s = .string (mk (Pck.acc Pck.verR l n)) ∧ Below w.heap.size w wr) (fun _ i _ => l.length - (intOf i).toNat)
 case atStart => exact ⟨0, Nat.zero_le _, rfl, rfl, B1.out⟩
 case round =>
  obtain ⟨n, hn, rfl, rfl, hbel⟩ := hrel
  by_cases hlt : n < l.length
  ·obtain ⟨be, oe, cap1, e, -, -, hb⟩ := H.out.block (by omega)
   injection e with e1 e2 e3
   subst e1 e3
   clear e2 hb
   obtain ⟨x, hx⟩ : ∃ x, l[n]? = some x := ⟨_, List.getElem?_eq_getElem hlt⟩
   have hxb := HB.out x (List.mem_of_getElem? hx)
   have hnn0 : (0 : Int) ≤ (n : Int) := by omega
   have hnn1 : (n : Int) < (l.length : Int) := by omega
   have hlen1 : (Pck.acc Pck.verR l n).length ≤ 9 + 100000 * (18 + 9) := HLN.out n
   have hnext : Hid (mk (Pck.acc Pck.verR l n) ++ mk (Pck.txt (Pck.verR x)) = mk (Pck.acc Pck.verR l (n + 1))) := Lib.hid (by rw [mk_append, Pck.acc_next hx])
   have hxl : (Pck.verR x).length ≤ 18 := (fun y (_ : Ver.Bd y) => Pck.verR_len y) x hxb
   have htl := Pck.txt_len (Pck.verR x)
   rw [← mk_len] at hlen1 htl
   have TX := Lib.hid (fun W => ref_txt (Pck.verR x) (by omega) W)
   have XC := Lib.hid (fun (W : World) (hW : InB wr W) => (Vrs.at (Rws.below (Rws.below H.out hbel) hW.below) hx : _))
   have HBL := Lib.hid hbel
   have Hlt := Lib.hid hlt
   clear hbel hlt hn
   generalize mk (Pck.acc Pck.verR l n) = acc at *
   have PV := Lib.hid (fun W => ref_pver x hxb W)
   obtain ⟨c0, c1⟩ := XC.out wr (InB.refl _)
   clear hx hxb XC
   generalize hz : mk (Pck.txt (Pck.verR x)) = tt at *
   have n1 : ¬ 9223372036854775807 < acc.size + tt.size := by omega
   clear hz htl hlen1 hxl
   obtain ⟨x1, x2⟩ := x
   dsimp only [verA] at PV TX c0 c1
   generalize Pck.verR ⟨x1, x2⟩ = bs at *
   go_wp2_with fail
   refine (PV.out _).mono ?_
   rintro e w2 ⟨rfl, b2⟩
   have B2 := Lib.hid (HBL.out.trans (b2.mono HBL.out.size))
   clear b2 c0 c1
   go_wp2_with fail
   refine (TX.out _).mono ?_
   rintro e w3 ⟨rfl, b3⟩
   have B9 := Lib.hid (B2.out.trans (b3.mono B2.out.size))
   clear b3
   go_wp2_with fail
   go_roundw
   case rel => exact ⟨n + 1, by have := Hlt.out; omega, by go_num, congrArg Value.string hnext.out, B9.out⟩
   case measure => (have := Hlt.out; simp [intOf]; omega)
  ·obtain rfl : n = l.length := by omega
   have HBL := Lib.hid hbel
   have hE : Hid (mk (Pck.acc Pck.verR l l.length) = mk (Pck.lst Pck.verR l)) := Lib.hid (by rw [Pck.acc_all])
   clear hbel hlt hn
   generalize mk (Pck.acc Pck.verR l l.length) = acc at *
   go_wp2_with fail
   go_ret
   exact ⟨by rw [← hE.out]; rfl, HBL.out⟩
theorem ref_pitems {w : World} {F : Nat → Prop} {v : Value} {l : List Ver.V} (h : Vrs w F v l) (hl : l.length ≤ 1000000) :
  Calls Tryz.prog 57 #[v] w fun e w' => e = .returned (.bool (decide (Pck.OkItems l))) ∧ Below w.heap.size w w' := by
 obtain ⟨A, cap, rfl, hcap⟩ := h.parts
 have H := Lib.hid h
 have hl' : (l.length : Int) ≤ 1000000 := by omega
 have P1 := Lib.hid (fun (x : Ver.V) (W : World) => (ref_vright W x).mono (fun _ _ h => (⟨h.1, h.2.below⟩ : _ ∧ Below W.heap.size W _)))
 have OF := Lib.hid (fun (W : World) (hW : Below w.heap.size w W) => ref_iof (Rws.below h hW) hl)
 have EQ := Lib.hid (fun (W : World) (hW : Below w.heap.size w W) (G : Nat → Prop) (u : Value) (hu : Vrs W G u (Ver.sort l)) => ref_vsame (Rws.below h hW) hu hl (Nat.le_trans (Ver.sort_len l) hl))
 clear h
 go_enter Tryz.func57, Tryz.ntmps57
 go_wp2_with fail
 go_loopw [3] (fun i wr => ∃ n : Nat, n ≤ l.length ∧ i = .int .i64 (n : Int) ∧ Hid (∀ x ∈ l.take n, Ver.Right x) ∧ Below w.heap.size w wr) (fun i _ => l.length - (intOf i).toNat)
 case atStart => exact ⟨0, Nat.zero_le _, rfl, Lib.hid (by simp), Below.refl _ _⟩
 case round =>
  obtain ⟨n, hn, rfl, hall, hbel⟩ := hrel
  by_cases hlt : n < l.length
  ·obtain ⟨b, o, cap1, e, -, -, hb⟩ := H.out.block (by omega)
   injection e with e1 e2 e3
   subst e1 e3
   clear e2
   obtain ⟨x, hx⟩ : ∃ x, l[n]? = some x := ⟨_, List.getElem?_eq_getElem hlt⟩
   obtain ⟨d0, d1⟩ := Vrs.at (Rws.below H.out hbel) hx
   have hn0 : (0 : Int) ≤ (n : Int) := by omega
   have hn1 : (n : Int) < (l.length : Int) := by omega
   have PX := P1.out x wr
   have HBL := Lib.hid hbel
   have Hlt := Lib.hid hlt
   clear hb hlt hn hbel
   by_cases hr : Ver.Right x
   ·rw [decide_eq_true hr] at PX
    have hnext : Hid (∀ y ∈ l.take (n + 1), Ver.Right y) := Lib.hid (by
     obtain ⟨h1, e1⟩ := List.getElem?_eq_some_iff.1 hx
     intro y hy
     rw [List.take_succ_eq_append_getElem h1, e1] at hy
     rcases List.mem_append.1 hy with hy | hy
     ·exact hall.out y hy
     ·rw [List.mem_singleton.1 hy]; exact hr)
    replace PX := Lib.hid PX
    clear hx hr hall
    obtain ⟨x1, x2⟩ := x
    dsimp only [verA] at PX d0 d1
    go_wp2_with fail
    refine (PX.out).mono ?_
    rintro e w1 ⟨rfl, hb1⟩
    have HB1 := Lib.hid (HBL.out.trans (hb1.mono HBL.out.size))
    clear hb1
    go_wp2_with fail
    go_roundw
    case rel => exact ⟨n + 1, by have := Hlt.out; omega, by go_num, hnext, HB1.out⟩
    case measure => (have := Hlt.out; simp [intOf]; omega)
   ·rw [decide_eq_false hr] at PX
    have hno : Hid (decide (Pck.OkItems l) = false) := Lib.hid (decide_eq_false (fun h => hr (h.1 x (List.mem_of_getElem? hx))))
    replace PX := Lib.hid PX
    clear hx hr hall
    obtain ⟨x1, x2⟩ := x
    dsimp only [verA] at PX d0 d1
    go_wp2_with fail
    refine (PX.out).mono ?_
    rintro e w1 ⟨rfl, hb1⟩
    have HB1 := Lib.hid (HBL.out.trans (hb1.mono HBL.out.size))
    clear hb1
    go_wp2_with fail
    go_ret
    exact ⟨by rw [hno.out]; rfl, HB1.out⟩
  ·obtain rfl : n = l.length := by omega
   have hyes : Hid (decide (l = Ver.sort l) = decide (Pck.OkItems l)) := Lib.hid (by have h1 := hall.out; rw [List.take_length] at h1; rw [decide_eq_decide]; exact ⟨fun h => ⟨h1, h.symm⟩, fun h => h.2.symm⟩)
   have HBL := Lib.hid hbel
   clear hall hbel hn hlt
   go_wp2_with fail
   refine (OF.out _ HBL.out).mono ?_
   rintro e w1 ⟨u, rfl, h1⟩
   have B1 := Lib.hid (HBL.out.trans (h1.2.mono HBL.out.size))
   have U1 := Lib.hid (h1.rows (fun _ _ => rfl))
   clear h1
   go_wp2_with fail
   refine (EQ.out _ B1.out _ _ U1.out).mono ?_
   rintro e w2 ⟨rfl, b2⟩
   have B2 := Lib.hid (B1.out.trans (b2.mono B1.out.size))
   clear b2
   go_wp2_with fail
   go_ret
   exact ⟨by rw [← hyes.out]; rfl, B2.out⟩
open Go.RowKit Go.Sort
theorem ref_vat (w : World) {v : List Int} (i : Int) (hv : v.length = 65) : Calls Tryz.prog 137 #[vecA v, .int .i64 i] w fun e w' => e = .returned (.int .i64 (Vec.num v i)) ∧ Laid w w' := by
 have HL := Lib.hid (Laid.new w (.cells (vecR v) 32))
 by_cases h1 : i < 1
 ·have E : Hid (Vec.num v i = 0) := Lib.hid (by unfold Vec.num; rw [if_neg (by omega)])
  go_enter Tryz.func137, Tryz.ntmps137
  go_wp2_with fail
  go_ret
  exact ⟨by rw [E.out]; rfl, HL.out⟩
 ·by_cases h2 : 64 < i
  ·have E : Hid (Vec.num v i = 0) := Lib.hid (by unfold Vec.num; rw [if_neg (by omega)])
   go_enter Tryz.func137, Tryz.ntmps137
   go_wp2_with fail
   go_ret
   exact ⟨by rw [E.out]; rfl, HL.out⟩
  ·obtain ⟨k, hk, hk2⟩ : ∃ k : Nat, i = (k : Int) ∧ 1 ≤ k ∧ k ≤ 64 := ⟨i.toNat, by omega, by omega⟩
   subst hk
   obtain ⟨n, hn⟩ : ∃ n, v[k]? = some n := ⟨_, List.getElem?_eq_getElem (by omega)⟩
   have E : Hid (Vec.num v (k : Int) = max n 0) := Lib.hid (by
    unfold Vec.num Vec.at_
    rw [if_pos (by omega), Int.toNat_natCast, if_pos (by omega), hn]; rfl)
   have c0 := (VRow.made w hv).at hn
   have had := vec_addr (k := k) (by omega) w.heap.size
   by_cases h3 : n < 0
   ·have E : Hid (Vec.num v (k : Int) = 0) := Lib.hid (by rw [E.out]; omega)
    clear hn hv
    go_enter Tryz.func137, Tryz.ntmps137
    go_wp2_with fail
    go_ret
    exact ⟨by rw [E.out]; rfl, HL.out⟩
   ·have E : Hid (Vec.num v (k : Int) = n) := Lib.hid (by rw [E.out]; omega)
    clear hn hv
    go_enter Tryz.func137, Tryz.ntmps137
    go_wp2_with fail
    go_ret
    exact ⟨by rw [E.out]; rfl, HL.out⟩
theorem ref_vplain (w : World) {v : List Int} (hv : v.length = 65) : Calls Tryz.prog 56 #[vecA v] w fun e w' => e = .returned (.bool (decide (Vec.Plain v))) ∧ Below w.heap.size w w' := by
 have mixed : Tryz.prog.follows .mixedOrders = true := by kernel_rfl
 have start : ∃ W, W = w.alloc (.cells (vecR v) 32) ∧ VRow W w.heap.size v ∧ Laid w W := ⟨_, rfl, VRow.made w hv, Laid.new w _⟩
 obtain ⟨W, hW, r0, hL⟩ := start
 have R0 := Lib.hid r0
 have HL := Lib.hid hL
 have HV := Lib.hid hv
 clear r0 hL hv
 go_enter Tryz.func56, Tryz.ntmps56
 go_wp2_with fail
 rw [← hW]
 clear hW
 go_loopw [3] (fun i wr => ∃ k : Nat, k ≤ 65 ∧ i = .int .i64 (k : Int) ∧ Hid (∀ j, j < k → v[j]? = some (Vec.at_ v j)) ∧ InB W wr) (fun i _ => 65 - (intOf i).toNat)
 case atStart => exact ⟨0, by omega, rfl, Lib.hid (fun j hj => by omega), InB.refl W⟩
 case round =>
  obtain ⟨k, hk, rfl, hall, hbel⟩ := hrel
  by_cases hlt : k < 65
  ·have V0 : Hid (∀ w', InB wr w' → VRow w' w.heap.size v) := Lib.hid (fun w' h => (R0.out.inB hbel).inB h)
   obtain ⟨n, hn⟩ : ∃ n, v[k]? = some n := ⟨_, List.getElem?_eq_getElem (by rw [HV.out]; exact hlt)⟩
   have XC : Hid (∀ w', InB wr w' → w'.cell? ⟨w.heap.size, k, none⟩ = some (.int .i64 n)) := Lib.hid (fun w' h => (V0.out w' h).at hn)
   have had := vec_addr (k := k) hlt w.heap.size
   have AT := Lib.hid (fun W' => ref_vat W' (k : Int) HV.out)
   rw [Vec.num_nat v hlt] at AT
   have k1 : (k : Int) ≤ 64 := by omega
   have Hbel := Lib.hid hbel
   have Hn := Lib.hid hn
   clear hbel hn
   by_cases he : n = Vec.at_ v k
   ·have Hnext : Hid (∀ j, j < k + 1 → v[j]? = some (Vec.at_ v j)) := Lib.hid (fun j hj => by
     by_cases e : j = k
     ·subst e; rw [Hn.out, ← he]
     ·exact hall.out j (by omega))
    rw [← he] at AT
    clear he hall
    go_wp2_with fail
    refine wp_region_below (by assumption) (by kernel_rfl) ?_
    repeat ((first
     | (refine wq_skip (by rfl) ?_)
     | (refine wq_vload (by kernel_rfl) _ (by rfl) (by rfl) V0.out ?_)
     | (refine wq_take (v := ?_) (by kernel_rfl) (by intro w hSw; have hXC := XC.out w hSw; go_simp; first | done | with_reducible rfl) ?_)
     | (refine wq_call (by kernel_rfl) ?hent (fun w hSw => inB_laid hSw (AT.out w)) ?_; (case hent => (intro w hSw; go_simp; done)))); (try simp only [zz]))
    refine wq_nil ?_
    intro wq hq
    have HQ := Lib.hid (Hbel.out.trans hq.below)
    clear hq
    go_wp2_with fail
    exact ⟨⟨k + 1, by omega, rfl, Hnext, HQ.out⟩, by show 65 - ((k : Int) + 1).toNat < 65 - (k : Int).toNat; omega⟩
   ·have E : Hid (decide (Vec.Plain v) = false) := Lib.hid (decide_eq_false (fun h => he (by have := h.2 k hlt; rw [Hn.out] at this; injection this)))
    generalize Vec.at_ v k = m at *
    clear hall
    go_wp2_with fail
    refine wp_region_below (by assumption) (by kernel_rfl) ?_
    repeat ((first
     | (refine wq_skip (by rfl) ?_)
     | (refine wq_vload (by kernel_rfl) _ (by rfl) (by rfl) V0.out ?_)
     | (refine wq_take (v := ?_) (by kernel_rfl) (by intro w hSw; have hXC := XC.out w hSw; go_simp; first | done | with_reducible rfl) ?_)
     | (refine wq_call (by kernel_rfl) ?hent (fun w hSw => inB_laid hSw (AT.out w)) ?_; (case hent => (intro w hSw; go_simp; done)))); (try simp only [zz]))
    refine wq_nil ?_
    intro wq hq
    have HQ := Lib.hid (HL.out.below.trans ((Hbel.out.trans hq.below).below.mono HL.out.size))
    clear hq
    go_wp2_with fail
    go_ret
    exact ⟨by rw [E.out]; rfl, HQ.out⟩
  ·obtain rfl : k = 65 := by omega
   have E : Hid (decide (Vec.Plain v) = true) := Lib.hid (decide_eq_true ⟨HV.out, fun j hj => hall.out j hj⟩)
   have HQ := Lib.hid (HL.out.below.trans (hbel.below.mono HL.out.size))
   clear hall hbel
   go_wp2_with fail
   go_ret
   exact ⟨by rw [E.out]; rfl, HQ.out⟩
open Go.RowKit Go.Sort
theorem ver_counts (w : World) (n : Int) (h : n ≤ 9223372036854775807) : Calls Tryz.prog 287 #[.int .i64 n] w fun e w' => e = .returned (.bool (decide ((1 : Int) ≤ n))) ∧ w = w' := by
 by_cases h1 : (1 : Int) ≤ n
 ·have E : Hid (decide ((1 : Int) ≤ n) = true) := Lib.hid (decide_eq_true h1)
  go_enter Tryz.func287, Tryz.ntmps287
  go_wp2_with fail
  go_ret
  exact ⟨by rw [E.out]; first | rfl | (simp; omega), rfl⟩
 ·have E : Hid (decide ((1 : Int) ≤ n) = false) := Lib.hid (decide_eq_false h1)
  go_enter Tryz.func287, Tryz.ntmps287
  go_wp2_with fail
  go_ret
  exact ⟨by rw [E.out]; first | rfl | (simp; omega), rfl⟩
theorem ver_check (w : World) (v : Ver.V) (hb : Ver.Bd v) : Calls Tryz.prog 191 #[verA v] w fun e w' => e = .returned (.int .i64 (Ver.checkV v)) ∧ Laid w w' := by
 have L := Lib.hid (laid_one w)
 obtain ⟨x, y⟩ := v
 have CO := Lib.hid (fun W => ver_counts W y (by have := hb.2; unfold Ver.I64 at this; exact this.2))
 have E0 : Hid (Ver.checkV ⟨x, y⟩ = if (1 : Int) ≤ x ∧ x ≤ 64 ∧ (1 : Int) ≤ y then 0 else 2) := Lib.hid rfl
 clear hb
 by_cases h1 : x < 1
 ·have E : Hid (Ver.checkV ⟨x, y⟩ = 2) := Lib.hid (by rw [E0.out, if_neg (by omega)])
  go_enter Tryz.func191, Tryz.ntmps191
  go_wp2_with fail
  go_ret
  exact ⟨by rw [E.out]; rfl, L.out _⟩
 ·by_cases h2 : 64 < x
  ·have E : Hid (Ver.checkV ⟨x, y⟩ = 2) := Lib.hid (by rw [E0.out, if_neg (by omega)])
   go_enter Tryz.func191, Tryz.ntmps191
   go_wp2_with fail
   go_ret
   exact ⟨by rw [E.out]; rfl, L.out _⟩
  ·by_cases h3 : (1 : Int) ≤ y
   ·have E : Hid (Ver.checkV ⟨x, y⟩ = 0) := Lib.hid (by rw [E0.out, if_pos (by omega)])
    have CO : Hid (∀ W, Calls Tryz.prog 287 #[.int .i64 y] W fun e w' => e = .returned (.bool true) ∧ W = w') := Lib.hid (fun W => by have := CO.out W; rwa [decide_eq_true h3] at this)
    go_enter Tryz.func191, Tryz.ntmps191
    go_wp2_with (go_at_call 287; refine (CO.out _).mono ?_; rintro e w' ⟨rfl, rfl⟩)
    go_ret
    exact ⟨by rw [E.out]; rfl, L.out _⟩
   ·have E : Hid (Ver.checkV ⟨x, y⟩ = 2) := Lib.hid (by rw [E0.out, if_neg (by omega)])
    have CO : Hid (∀ W, Calls Tryz.prog 287 #[.int .i64 y] W fun e w' => e = .returned (.bool false) ∧ W = w') := Lib.hid (fun W => by have := CO.out W; rwa [decide_eq_false h3] at this)
    go_enter Tryz.func191, Tryz.ntmps191
    go_wp2_with (go_at_call 287; refine (CO.out _).mono ?_; rintro e w' ⟨rfl, rfl⟩)
    go_ret
    exact ⟨by rw [E.out]; rfl, L.out _⟩
open Go.RowKit Go.Sort
def Vec.putv (v : List Int) (x : Ver.V) : List Int := if Ver.Right x then v.set x.by_.toNat (max ((v[x.by_.toNat]?).getD 0) x.n) else v
theorem Vec.putv_up {v : List Int} (h : Vec.Plain v) (x : Ver.V) : Vec.putv v x = Vec.up v x := by
 unfold Vec.putv
 by_cases hx : Ver.Right x
 ·have hr := hx
  unfold Ver.Right at hr
  rw [if_pos hx, h.2 _ (by omega)]
  exact Vec.up_max h hx (h.2 _ (by omega))
 ·rw [if_neg hx, Vec.up_no (fun k => hx k.1)]
theorem vec_put {a w : World} {b : Nat} {v : List Int} (x : Ver.V) (hx : Ver.Bd x) (h : VRow w b v) (hl : Laid a w) (hb : a.heap.size ≤ b) : Calls Tryz.prog 162 #[.pointer (some ⟨b, 0, none⟩), verA x] w fun e w' => e = .returned (.tuple #[]) ∧ VRow w' b (Vec.putv v x) ∧ Laid a w' ∧ ∀ c u, c ≠ b → VRow w c u → VRow w' c u := by
 have CH := Lib.hid (fun W => ver_check W x hx)
 have hlt := h.inHeap
 have F := Lib.hid (show ∀ w1, Laid (w.alloc (.cells #[.int .i64 x.by_, .int .i64 x.n] 51)) w1 → w1.cell? ⟨w.heap.size, 0, none⟩ = some (.int .i64 x.by_) ∧ w1.cell? ⟨w.heap.size, 1, none⟩ = some (.int .i64 x.n) ∧ VRow w1 b v ∧ Laid a w1 ∧ (∀ c u, VRow w c u → VRow w1 c u) from fun w1 h1 => by
  have hr := (Row.made w 51 #[.int .i64 x.by_, .int .i64 x.n]).below h1.below (by simp)
  exact ⟨hr.at 0, hr.at 1, (h.alloc _).below h1.below (by simp; omega), (hl.alloc _).trans h1, fun c u hc => (hc.alloc _).below h1.below (by have := hc.inHeap; simp; omega)⟩)
 by_cases hr : Ver.Right x
 ·have e : Ver.checkV x = 0 := if_pos hr
  rw [e] at CH
  have ep : Hid (Vec.putv v x = v.set x.by_.toNat (max ((v[x.by_.toNat]?).getD 0) x.n)) := Lib.hid (if_pos hr)
  obtain ⟨k, hk, hk2⟩ : ∃ k : Nat, x.by_ = (k : Int) ∧ 1 ≤ k ∧ k ≤ 64 := by
   unfold Ver.Right at hr
   exact ⟨x.by_.toNat, by omega, by omega⟩
  obtain ⟨n, hn⟩ : ∃ n, v[k]? = some n := ⟨_, List.getElem?_eq_getElem (by rw [h.len]; omega)⟩
  rw [hk, Int.toNat_natCast, hn] at ep
  obtain ⟨x1, x2⟩ := x
  simp only at hk CH F ep
  subst hk
  have Hn := Lib.hid hn
  have HB := Lib.hid hb
  have Hk := Lib.hid hk2
  have hne : ¬ w.heap.size = b := by omega
  clear h hl hb hx hr e hn hk2 hlt
  go_enter Tryz.func162, Tryz.ntmps162
  go_wp2_with (go_at_call 191; refine (CH.out _).mono ?_; rintro e w1 ⟨rfl, hL⟩)
  obtain ⟨c0, c1, c2, c3, c4⟩ := F.out _ hL
  have cv := c2.at Hn.out
  have cf := c2.free k
  have had := vec_addr (k := k) (by have := Hk.out; omega) b
  have C2 := Lib.hid c2
  have C3 := Lib.hid c3
  have C4 := Lib.hid c4
  clear c2 c3 c4 hL
  refine wp_region_tail (n := 13) (S := (fun w' : World => w' = w1.drew)) (by kernel_rfl) (by kernel_rfl) (by rfl) rfl (fun hHeld => ?_)
  refine wpAnyH_tk (i := 0) (v := ?_) rfl (Or.inl ⟨by rfl, (by intro w hSw; subst hSw; go_simp; try with_reducible rfl)⟩) (by assumption) ?_
  simp only [zz]
  refine wpAnyH_tk (i := 1) (v := ?_) rfl (Or.inl ⟨by rfl, (by intro w hSw; subst hSw; go_simp; try with_reducible rfl)⟩) (by assumption) ?_
  simp only [zz]
  refine wpAnyH_tk (i := 2) (v := ?_) rfl (Or.inl ⟨by rfl, (by intro w hSw; subst hSw; go_simp; try with_reducible rfl)⟩) (by assumption) ?_
  simp only [zz]
  refine wpAnyH_tk (i := 3) (v := ?_) rfl (Or.inl ⟨by rfl, (by intro w hSw; subst hSw; go_simp; try with_reducible rfl)⟩) (by assumption) ?_
  simp only [zz]
  refine wpAnyH_tk (i := 4) (v := ?_) rfl (Or.inl ⟨by rfl, (by intro w hSw; subst hSw; go_simp; try with_reducible rfl)⟩) (by assumption) ?_
  simp only [zz]
  refine wpAnyH_tk (i := 5) (v := ?_) rfl (Or.inl ⟨by rfl, (by intro w hSw; subst hSw; go_simp; try with_reducible rfl)⟩) (by assumption) ?_
  simp only [zz]
  refine wpAnyH_tk (i := 6) (v := ?_) rfl (Or.inl ⟨by rfl, (by intro w hSw; subst hSw; go_simp; try with_reducible rfl)⟩) (by assumption) ?_
  simp only [zz]
  refine wpAnyH_tk (i := 7) (v := ?_) rfl (Or.inl ⟨by rfl, (by intro w hSw; subst hSw; go_simp; try with_reducible rfl)⟩) (by assumption) ?_
  simp only [zz]
  refine wpAnyH_tk (i := 8) (v := ?_) rfl (Or.inl ⟨by rfl, (by intro w hSw; subst hSw; go_simp; try with_reducible rfl)⟩) (by assumption) ?_
  simp only [zz]
  refine wpAnyH_tk (i := 9) (v := ?_) rfl (Or.inl ⟨by rfl, (by intro w hSw; subst hSw; go_simp; try with_reducible rfl)⟩) (by assumption) ?_
  simp only [zz]
  refine wpAnyH_tk (i := 10) (v := ?_) rfl (Or.inl ⟨by rfl, (by intro w hSw; subst hSw; go_simp; try with_reducible rfl)⟩) (by assumption) ?_
  simp only [zz]
  refine wpAnyH_tk (i := 11) (v := ?_) rfl (Or.inl ⟨by rfl, (by intro w hSw; subst hSw; go_simp; try with_reducible rfl)⟩) (by assumption) ?_
  simp only [zz]
  refine wpAnyH_tk (i := 12) (v := ?_) rfl (Or.inl ⟨by rfl, (by intro w hSw; subst hSw; go_simp; try with_reducible rfl)⟩) (by assumption) ?_
  simp only [zz]
  refine wpAnyH_done (by kernel_rfl) ?_ _
  refine wpAny_of_held (S := fun _ => True) _ _ _ _ ?_
  have hHeld : True := trivial
  refine wpAnyH_td (i := 13) rfl ?_
  simp only [zz]
  refine wpAnyH_ready (rs := [14]) (by kernel_rfl) (by simp) ?_
  refine AllReadyH.cons rfl (fun K hK => ?_) AllReadyH.nil
  go_simp
  refine hK.out _ _ trivial (fun hHeld => ?_)
  clear hK K
  refine wpAnyH_done (by kernel_rfl) ?_ _
  have h1 := C2.out.stored k (max n x2)
  exact Go.Great.bodyPost_end0 rfl rfl ⟨rfl, by rw [ep.out]; exact h1, (C3.out.stored HB.out _).drew, fun c u hc hu => (C4.out c u hu).storedElsewhere (fun e => hc e.symm) _⟩
 ·have e : Ver.checkV x = 2 := if_neg hr
  rw [e] at CH
  have ep : Hid (Vec.putv v x = v) := Lib.hid (if_neg hr)
  obtain ⟨x1, x2⟩ := x
  simp only at CH F ep
  clear h hl hb hx hr e hlt
  go_enter Tryz.func162, Tryz.ntmps162
  go_wp2_with (go_at_call 191; refine (CH.out _).mono ?_; rintro e w1 ⟨rfl, hL⟩; have F1 := Lib.hid (F.out _ hL); clear hL)
  exact Go.Great.bodyPost_end0 rfl rfl ⟨rfl, by rw [ep.out]; exact F1.out.2.2.1, F1.out.2.2.2.1, fun c u _ hu => F1.out.2.2.2.2 c u hu⟩
theorem vec_of {w : World} {F : Nat → Prop} {s : Value} {l : List Ver.V} (h : Vrs w F s l) (hl : l.length ≤ 1000000) (hb : ∀ x ∈ l, Ver.Bd x) : Calls Tryz.prog 81 #[s] w fun e w' => e = .returned (vecA (Vec.ofl l)) ∧ Laid w w' := by
 have hz := vecZero
 obtain ⟨A, c, rfl, hc⟩ := h.parts
 have hb1 : VRow ((w.alloc (.cells (vecR Vec.zeros) 32)).alloc (.cells (vecR Vec.zeros) 32)) w.heap.size Vec.zeros := (VRow.made w Vec.zeros_len).alloc _
 have hb2 : VRow ((w.alloc (.cells (vecR Vec.zeros) 32)).alloc (.cells (vecR Vec.zeros) 32)) (w.heap.size + 1) Vec.zeros := by
  have := VRow.made (w.alloc (.cells (vecR Vec.zeros) 32)) (v := Vec.zeros) Vec.zeros_len
  rwa [World.size_alloc] at this
 have HL0 : Hid (Laid w ((w.alloc (.cells (vecR Vec.zeros) 32)).alloc (.cells (vecR Vec.zeros) 32))) := Lib.hid ((Laid.new w _).alloc _)
 have HB1 := Lib.hid hb1
 have HB2 := Lib.hid hb2
 have H := Lib.hid h
 have HBd := Lib.hid hb
 have hl' : (l.length : Int) ≤ 1000000 := by omega
 clear h hb hb1 hb2
 go_enter Tryz.func81, Tryz.ntmps81
 go_wp2_with fail
 go_loopw [8] (fun i wr => ∃ k : Nat, k ≤ l.length ∧ i = .int .i64 (k : Int) ∧ VRow wr w.heap.size Vec.zeros ∧ VRow wr (w.heap.size + 1) (Vec.ofl (l.take k)) ∧ Laid w wr) (fun i _ => l.length - (intOf i).toNat)
 case atStart => exact ⟨0, Nat.zero_le _, rfl, HB1.out, by rw [List.take_zero]; exact HB2.out, HL0.out⟩
 case round =>
  obtain ⟨k, hk, rfl, h1, h2, h3⟩ := hrel
  by_cases hlt : k < l.length
  ·obtain ⟨b, o, cap, e, -, -, hb⟩ := H.out.block (by omega)
   injection e with e1 e2 e3
   subst e1 e3
   clear e2
   obtain ⟨x, hx⟩ : ∃ x, l[k]? = some x := ⟨_, List.getElem?_eq_getElem hlt⟩
   obtain ⟨c0, c1⟩ := Vrs.at (H.out.below h3.below) hx
   have hk0 : (0 : Int) ≤ (k : Int) := by omega
   have hk1 : (k : Int) < (l.length : Int) := by omega
   have e : Hid (Vec.putv (Vec.ofl (l.take k)) x = Vec.ofl (l.take (k + 1))) := Lib.hid (by rw [Vec.putv_up (Vec.ofl_plain _), Vec.ofl_take l k x hx])
   have hxb := HBd.out x (List.mem_of_getElem? hx)
   have PU := Lib.hid (vec_put (a := w) x hxb (h2.alloc (.cells #[.int .i64 x.by_, .int .i64 x.n] 51)) (h3.alloc _) (Nat.le_succ _))
   have K1 := Lib.hid (fun W' (hb : Laid w W') => hb)
   have H1 := Lib.hid (h1.alloc (.cells #[.int .i64 x.by_, .int .i64 x.n] 51))
   obtain ⟨x1, x2⟩ := x
   simp only at c0 c1 PU H1
   clear h1 h2 h3 hx hxb
   go_wp2_with fail
   refine PU.out.mono ?_
   rintro e w1 ⟨rfl, h4, h5, h6⟩
   have H4 : Hid (VRow w1 (w.heap.size + 1) (Vec.ofl (l.take (k + 1)))) := Lib.hid (by rw [← e.out]; exact h4)
   have H5 := Lib.hid h5
   have H6 : Hid (VRow w1 w.heap.size Vec.zeros) := Lib.hid (h6 _ _ (by omega) H1.out)
   clear h4 h5 h6
   go_wp2_with fail
   exact ⟨⟨k + 1, by omega, rfl, H6.out, H4.out, H5.out⟩, by show l.length - ((k : Int) + 1).toNat < l.length - (k : Int).toNat; omega⟩
  ·obtain rfl : k = l.length := by omega
   rw [List.take_length] at h2
   have H1 := Lib.hid h1
   have H2 := Lib.hid h2
   have H3 := Lib.hid h3
   have Hc : Hid ((Vec.ofl l).length = 65) := Lib.hid (Vec.ofl_plain l).1
   clear h1 h2 h3
   go_wp2_with (first | refine wpList_vload (by rfl) _ (by rfl) (by rfl) H2.out ?_ | refine wpList_vstore (by rfl) _ _ (by rfl) (by rfl) (by rfl) H1.out Hc.out ?_)
   exact bodyPost_ret (v := vecA (Vec.ofl l)) (results_cell_row (by rfl) _ _ w.heap.size 32 _ (0, 0) _ (by rfl) (H1.out.set _ Hc.out).row Tryz.underlying32 rfl (vecSize Hc.out)) rfl ⟨rfl, H3.out.set (Nat.le_refl _) _⟩
open Go.RowKit Go.Sort
theorem ref_vends (w : World) {v : List Int} (hv : v.length = 65) : Calls Tryz.prog 90 #[vecA v] w fun e w' => ∃ s, e = .returned s ∧ RowsOwn 51 2 verV w (Vec.ends v) s w' := by
 obtain ⟨i0, hi0, hz0, hz1, hz2⟩ := ver_parts verInfo
 have start : ∃ W, W = w.alloc (.cells (vecR v) 32) ∧ VRow W w.heap.size v ∧ Laid w W := ⟨_, rfl, VRow.made w hv, Laid.new w _⟩
 obtain ⟨W, hW, r0, hL⟩ := start
 have R0 := Lib.hid r0
 have HL := Lib.hid hL
 have HV := Lib.hid hv
 clear r0 hL hv
 go_enter Tryz.func90, Tryz.ntmps90
 go_wp2_with fail
 rw [← hW]
 clear hW
 go_loopw [3, 4] (fun sv i wr => ∃ k : Nat, 1 ≤ k ∧ k ≤ 65 ∧ i = .int .i64 (k : Int) ∧ RowsOwn 51 2 verV W (Vec.endsK v k) sv wr) (fun _ i _ => 65 - (intOf i).toNat)
 case atStart => exact ⟨1, Nat.le_refl _, by omega, rfl, by rw [Vec.endsK_one]; exact RowsOwn.first (Below.refl _ _)⟩
 case round =>
  obtain ⟨k, hk1, hk, rfl, hr⟩ := hrel
  by_cases hlt : k < 65
  ·have AT := Lib.hid (fun W' => ref_vat W' (k : Int) HV.out)
   rw [Vec.num_nat v hlt] at AT
   have k1 : (k : Int) ≤ 64 := by omega
   have Hk := Lib.hid hk
   have V0 := Lib.hid (R0.out.below hr.2 R0.out.inHeap)
   have HR := Lib.hid hr
   clear hr
   by_cases hp : 0 < Vec.at_ v k
   ·have HE := Lib.hid (Vec.endsK_more v k hp)
    have Hlen := Lib.hid (Vec.endsK_len v k)
    generalize Vec.at_ v k = n at *
    go_wp2_with (refine wpList_vload (by rfl) _ (by rfl) (by rfl) V0.out ?_)
    refine (AT.out _).mono ?_
    rintro e w1 ⟨rfl, h1⟩
    have V1 := Lib.hid (V0.out.below h1.below V0.out.inHeap)
    have HR1 := Lib.hid (HR.out.below h1.below)
    clear h1
    go_wp2_with (refine wpList_vload (by rfl) _ (by rfl) (by rfl) V1.out ?_)
    refine (AT.out _).mono ?_
    rintro e w2 ⟨rfl, h2⟩
    have HR2 := Lib.hid (HR1.out.below h2.below)
    have hown := HR2.out.1.alloc (.cells #[.int .i64 (k : Int), .int .i64 n] 51)
    have Hmd := Lib.hid (ver_made w2 51 ⟨(k : Int), n⟩)
    have hsz : W.heap.size ≤ w2.heap.size := HR2.out.2.size
    clear h2 hk
    go_wp2_with (at_builtin; refine wp_joins (f := verV) (k := 2) rfl _ _ 33 rfl W.heap.size 51 i0 (.agg #[.int .i64 0, .int .i64 0]) 16 Tryz.underlying33 hi0 hz0 hz1 hz2 rfl (by decide) rfl rfl hown Hmd.out (fun _ _ => rfl) (fun x _ => ver_one x) ?c1 ?c2 ?c3 ?_; (case c1 => (have e1 := Hlen.out; have e2 := Hk.out; rw [show ([(⟨(k : Int), n⟩ : Ver.V)]).length = 1 from rfl]; unfold maxLen; omega)); (case c2 => (have e1 := Hlen.out; have e2 := Hk.out; rw [show ([(⟨(k : Int), n⟩ : Ver.V)]).length = 1 from rfl]; omega)); (case c3 => (simp; omega)); intro v2 w3 own2 hg2 _; have F2 := Lib.hid (HR2.out.more (x := (⟨(k : Int), n⟩ : Ver.V)) (v' := v2) (by simpa [verV] using own2) hg2); clear own2 hg2)
    rw [← HE.out] at F2
    exact ⟨⟨k + 1, by omega, by omega, rfl, F2.out⟩, by show 65 - ((k : Int) + 1).toNat < 65 - (k : Int).toNat; omega⟩
   ·have hp' : Vec.at_ v k ≤ 0 := by omega
    have HE := Lib.hid (Vec.endsK_same v k hp)
    generalize Vec.at_ v k = n at *
    go_wp2_with (refine wpList_vload (by rfl) _ (by rfl) (by rfl) V0.out ?_)
    refine (AT.out _).mono ?_
    rintro e w1 ⟨rfl, h1⟩
    have HR1 := HR.out.below h1.below
    rw [← HE.out] at HR1
    have HR1 := Lib.hid HR1
    clear h1
    go_wp2_with fail
    exact ⟨⟨k + 1, by omega, by omega, rfl, HR1.out⟩, by show 65 - ((k : Int) + 1).toNat < 65 - (k : Int).toNat; omega⟩
  ·obtain rfl : k = 65 := by omega
   have HR := Lib.hid (hr.since HL.out.below)
   clear hr
   go_wp2_with fail
   go_ret
   exact ⟨_, rfl, HR.out⟩
end Go.Proofs.YtpafpegcodempaaGreat
