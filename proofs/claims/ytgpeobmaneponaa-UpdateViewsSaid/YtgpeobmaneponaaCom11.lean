import Derived.Test.YtgpeobmaneponaaCom10
import Derived.Test.YtgpeobmaneponaaCom4
set_option maxRecDepth 100000
set_option linter.unusedVariables false
set_option linter.unusedSimpArgs false
set_option maxHeartbeats 12800000
namespace Go.Proofs.Ytgpeobmaneponaa
open Go.RowKit Go.Sort
def Upd.few (l : List Upd.U) : List Upd.U := (l.take 30).filter fun u => decide (Upd.light u)
theorem ufew_any {w : World} {F : Nat → Prop} {v : Value} {l : List Upd.U} (h : Ups w F v l) (hl : l.length ≤ 9223372036854775807) :
  Calls Try.prog 19 #[v] w fun e w' => ∃ v', e = .returned v' ∧ RowsOwn 27 8 upV w (Upd.few l) v' w' := by
 obtain ⟨i0, hi0, hz0, hz1, hz2⟩ := ver_parts upInfo
 obtain ⟨A, cap, rfl, -⟩ := h.parts
 have H := Lib.hid h
 have hl' : (l.length : Int) ≤ 9223372036854775807 := by omega
 clear h hl
 go_enter Try.func19, Try.ntmps19
 go_wp2_with fail
 go_loopw [3, 4] (fun out i wr => ∃ n : Nat, n ≤ l.length ∧ n ≤ 30 ∧ i = .int .i64 (n : Int) ∧ Hid (RowsOwn 27 8 upV w ((l.take n).filter fun u => decide (Upd.light u)) out wr)) (fun _ i _ => 30 - (intOf i).toNat)
 case atStart => exact ⟨0, Nat.zero_le _, by omega, rfl, Lib.hid (RowsOwn.start _ _ _ w)⟩
 case round =>
  obtain ⟨n, hn, hn30, rfl, hO⟩ := hrel
  by_cases hlt : n < l.length
  ·have hn1 : (n : Int) < (l.length : Int) := by omega
   by_cases h30 : n < 30
   ·have hn2 : (n : Int) < 30 := by omega
    obtain ⟨x, hx⟩ : ∃ x, l[n]? = some x := ⟨_, List.getElem?_eq_getElem hlt⟩
    have hUp := Rws.below H.out hO.out.2
    obtain ⟨b, o, rfl⟩ : ∃ b o, A = some ⟨b, o, none⟩ := by
     obtain ⟨b, o, c, e, -⟩ := hUp.block (by omega)
     injection e with e1
     exact ⟨b, o, e1⟩
    have LE := Lib.hid (fun (W : World) (hW : Below wr.heap.size wr W) => up_lies (range_rws (Rws.below hUp hW) hx) (up_len x))
    have LE0 := Lib.hid (LE.out wr (Below.refl _ _))
    have hft := Upd.filter_take (fun u : Upd.U => decide (Upd.light u)) l n x hx
    have hn0 : (0 : Int) ≤ (n : Int) := by omega
    have hlen : Hid (((l.take n).filter fun u => decide (Upd.light u)).length ≤ n) := Lib.hid (Nat.le_trans (List.length_filter_le _ _) (by rw [List.length_take]; omega))
    have CL := Lib.hid (fun W => ulight_any x W)
    have HM := Lib.hid (fun W => rows_made (f := upV) (k := 8) W 27 x)
    generalize hq : decide (Upd.light x) = q at hft CL
    cases q with
    | false =>
     have e : (l.take n).filter (fun u => decide (Upd.light u)) = (l.take (n + 1)).filter (fun u => decide (Upd.light u)) := by rw [hft, if_neg (by decide), List.append_nil]
     have He := Lib.hid e
     clear hft hx hUp hq e
     go_wp2_with (refine wpList_mload (by rfl) _ (by rfl) (by rfl) LE0.out ?_)
     refine (CL.out _).mono ?_
     rintro e w4 ⟨rfl, h4⟩
     have ON := hO.out.below h4
     rw [He.out] at ON
     replace ON := Lib.hid ON
     clear h4 hO
     go_wp2_with fail
     exact ⟨⟨n + 1, by omega, by omega, by go_num, ON⟩, by show 30 - ((n : Int) + 1).toNat < 30 - (n : Int).toNat; omega⟩
    | true =>
     have e := hft
     rw [if_pos rfl] at e
     have He := Lib.hid e
     clear hft hx hUp hq e
     go_wp2_with (refine wpList_mload (by rfl) _ (by rfl) (by rfl) LE0.out ?_)
     refine (CL.out _).mono ?_
     rintro e w4 ⟨rfl, h4⟩
     have O4 := Lib.hid (hO.out.below h4)
     have L4 := Lib.hid (LE.out w4 h4)
     have hown3 := O4.out.1.alloc (.cells (upV x).toArray 27)
     have hmade := HM.out w4
     have hsz3 : w.heap.size ≤ (w4.alloc (.cells (upV x).toArray 27)).heap.size := by have := O4.out.2.size; simp; omega
     have HO3 := Lib.hid (fun (v2 : Value) (w2 : World) (o : Obj) (h1 : w2.ownsRow w.heap.size 27 8 v2 (((l.take n).filter fun u => decide (Upd.light u)).length + 1) (((l.take n).filter fun u => decide (Upd.light u)).flatMap upV ++ upV x)) (h2 : _) => O4.out.more (x := x) (o := o) (v' := v2) (w2 := w2) h1 h2)
     have hbs : Hid ((upV x).length = 8) := Lib.hid rfl
     clear h4 hO LE LE0 HM
     generalize (l.take n).filter (fun u => decide (Upd.light u)) = own at *
     go_wp2_with (first | refine wpList_mload (by rfl) _ (by rfl) (by rfl) L4.out ?_ | refine wpList_buildK (k := 8) rfl 44 27 _ rfl (by rfl) Try.underlying44 hi0 hz0 hz1 (by decide) (by decide) hbs.out ?_ | (at_builtin; refine wp_joins (f := upV) (k := 8) rfl _ _ 44 rfl (w.heap.size) 27 i0 (upA Upd.zeroU) 80 Try.underlying44 hi0 hz0 hz1 hz2 rfl (by decide) rfl rfl hown3 hmade (fun _ _ => rfl) (fun x _ => up_one x) ?c3 ?c4 hsz3 ?_))
     case c3 => have := hlen.out; unfold maxLen; first | omega | (simp <;> omega)
     case c4 => have := hlen.out; first | omega | (simp <;> omega)
     intro v3 w3 h1 h2 _
     have hnew := HO3.out v3 w3 _ (by simpa using h1) h2
     rw [← He.out] at hnew
     replace hnew := Lib.hid hnew
     clear h1 h2 hown3 hmade
     go_wp2_with fail
     exact ⟨⟨n + 1, by omega, by omega, by go_num, hnew⟩, by show 30 - ((n : Int) + 1).toNat < 30 - (n : Int).toNat; omega⟩
   ·obtain rfl : n = 30 := by omega
    have hfin : Hid (RowsOwn 27 8 upV w (Upd.few l) _ wr) := hO
    clear hO
    go_wp2_with fail
    go_ret
    exact ⟨_, rfl, hfin.out⟩
  ·obtain rfl : n = l.length := by omega
   have e : (l.take l.length).filter (fun u => decide (Upd.light u)) = Upd.few l := by unfold Upd.few; rw [List.take_length, List.take_of_length_le hn30]
   have hfin := hO.out
   rw [e] at hfin
   replace hfin := Lib.hid hfin
   clear hO e
   go_wp2_with fail
   go_ret
   exact ⟨_, rfl, hfin.out⟩
def Upd.ofItem (l : List Upd.U) (P : Upd.U → Bool) (i : Ver.V) : Option Upd.U := match Upd.best l i with
 | some u => if P u then some u else none
 | none => none
theorem Upd.view_of (l : List Upd.U) (P : Upd.U → Bool) : (Ver.sort (l.map (·.item))).filterMap (Upd.ofItem l P) = Upd.view l P := rfl
theorem ref_uview {w : World} {F G : Nat → Prop} {v fv : Value} {l : List Upd.U} {f : List Flt.Cl} (h : Ups w F v l) (hf : Cls w G fv f) (hl : l.length ≤ 100000) (lf : f.length ≤ 1000000) (hs : ∀ c ∈ f, c.pre.length ≤ 100000) (hp : ∀ u ∈ l, u.path.length ≤ 9223372036854775807) :
  Calls Try.prog 24 #[v, fv] w fun e w' => ∃ v', e = .returned v' ∧ RowsOwn 27 8 upV w (Upd.view l (Upd.hit f)) v' w' := by
 obtain ⟨i0, hi0, hz0, hz1, hz2⟩ := ver_parts upInfo
 obtain ⟨A, cap, rfl, -⟩ := h.parts
 obtain ⟨A1, cap1, rfl, -⟩ := hf.parts
 have H := Lib.hid (fun (W : World) (hW : Below w.heap.size w W) => Rws.below h hW)
 have MA := Lib.hid (fun (u : Upd.U) (hu : u ∈ l) (W : World) (hW : Below w.heap.size w W) => ref_umatch u (Rws.below hf hW) lf hs (hp u hu))
 have BE := Lib.hid (fun (W : World) (hW : Below w.heap.size w W) (i : Ver.V) => ref_ubest (Rws.below h hW) hl i)
 have HL := Lib.hid hl
 have hl' : (l.length : Int) ≤ 100000 := by omega
 generalize hP : Upd.hit f = P at *
 generalize f.length = fl at *
 clear h hf hs lf hP hl hp
 go_enter Try.func24, Try.ntmps24
 go_wp2_with fail
 go_loopw [5, 6] (fun items i wr => ∃ n : Nat, n ≤ l.length ∧ i = .int .i64 (n : Int) ∧ Hid (RowsOwn 23 2 verV w (Ver.sort ((l.take n).map (·.item))) items wr)) (fun _ i _ => l.length - (intOf i).toNat)
 case atStart => exact ⟨0, Nat.zero_le _, rfl, Lib.hid (RowsOwn.start _ _ _ w)⟩
 case round =>
  obtain ⟨n, hn, rfl, hO⟩ := hrel
  by_cases hlt : n < l.length
  ·obtain ⟨x, hx⟩ : ∃ x, l[n]? = some x := ⟨_, List.getElem?_eq_getElem hlt⟩
   have hUp := H.out wr hO.out.2
   obtain ⟨b, o, rfl⟩ : ∃ b o, A = some ⟨b, o, none⟩ := by
    obtain ⟨b, o, c, e, -⟩ := hUp.block (by omega)
    injection e with e1
    exact ⟨b, o, e1⟩
   have LI := Lib.hid (up_item_lies (range_rws hUp hx))
   have hn0 : (0 : Int) ≤ (n : Int) := by omega
   have hn1 : (n : Int) < (l.length : Int) := by omega
   have hlen : (Ver.sort ((l.take n).map (·.item))).length ≤ 1000000 := Nat.le_trans (Ver.sort_len _) (by rw [List.length_map, List.length_take]; have := HL.out; omega)
   have PU := Lib.hid (ref_put_both hO.out hlen x.item)
   have hst : Ver.sort ((l.take (n + 1)).map (·.item)) = Ver.put (Ver.sort ((l.take n).map (·.item))) x.item := by
    have := Ver.sort_take (l.map (·.item)) n x.item (by rw [List.getElem?_map, hx]; rfl)
    rwa [← List.map_take, ← List.map_take] at this
   have Hst := Lib.hid hst
   clear hx hUp hst hlen hO
   go_wp2_with (refine wpList_mload (by rfl) _ (by rfl) (by rfl) LI.out ?_)
   refine (PU.out).mono ?_
   rintro e w1 ⟨v1, rfl, h1, -⟩
   have O1 := Lib.hid h1
   clear h1 PU
   go_wp2_with fail
   exact ⟨⟨n + 1, by omega, by go_num, by rw [Hst.out]; exact O1⟩, by show l.length - ((n : Int) + 1).toNat < l.length - (n : Int).toNat; omega⟩
  ·obtain rfl : n = l.length := by omega
   have hO' := hO.out
   rw [List.take_length] at hO'
   have hUn : Hid ((Ver.sort (l.map (·.item))).length ≤ 100000) := Lib.hid (Nat.le_trans (Ver.sort_len _) (by rw [List.length_map]; exact HL.out))
   have hmem : Hid (∀ i ∈ Ver.sort (l.map (·.item)), ∃ u ∈ l, u.item = i) := Lib.hid (fun i hi => by
    obtain ⟨u, hu, e⟩ := List.mem_map.1 ((Ver.sort_mem _ _).1 hi)
    exact ⟨u, hu, e⟩)
   have hview := Lib.hid (Upd.view_of l P)
   generalize Ver.sort (l.map (·.item)) = U at *
   obtain ⟨wA, rfl⟩ : ∃ W, W = wr := ⟨_, rfl⟩
   obtain ⟨A2, cap2, rfl, -⟩ := (hO'.rows (fun _ _ => rfl)).parts
   have OU := Lib.hid (fun (W : World) (hW : Below wA.heap.size wA W) => Rws.below (hO'.rows (fun _ _ => rfl)) hW)
   have HBw := Lib.hid hO'.2
   have hU' : (U.length : Int) ≤ 100000 := by have := hUn.out; omega
   clear hO hO'
   go_wp2_with fail
   go_loopw [7, 8] (fun out i w2 => ∃ n : Nat, n ≤ U.length ∧ i = .int .i64 (n : Int) ∧ Hid (RowsOwn 27 8 upV wA ((U.take n).filterMap (Upd.ofItem l P)) out w2)) (fun _ i _ => U.length - (intOf i).toNat)
   case atStart => exact ⟨0, Nat.zero_le _, rfl, Lib.hid (RowsOwn.start _ _ _ wA)⟩
   case round =>
    obtain ⟨n, hn, rfl, hO⟩ := hrel
    by_cases hlt : n < U.length
    ·obtain ⟨it, hit⟩ : ∃ x, U[n]? = some x := ⟨_, List.getElem?_eq_getElem hlt⟩
     have hUv := OU.out _ hO.out.2
     obtain ⟨b, o, rfl⟩ : ∃ b o, A2 = some ⟨b, o, none⟩ := by
      obtain ⟨b, o, c, e, -⟩ := hUv.block (by omega)
      injection e with e1
      exact ⟨b, o, e1⟩
     obtain ⟨c0, c1⟩ := Vrs.at hUv hit
     have hBw2 := Lib.hid (HBw.out.trans (hO.out.2.mono HBw.out.size))
     have BE2 := Lib.hid (BE.out _ hBw2.out it)
     have hn0 : (0 : Int) ≤ (n : Int) := by omega
     have hn1 : (n : Int) < (U.length : Int) := by omega
     obtain ⟨u0, hu0, hui⟩ := hmem.out it (List.mem_of_getElem? hit)
     have hsome : Hid (∀ k : Int, Upd.BestAt l l.length it k → ∃ (j : Nat) (u : Upd.U), k = (j : Int) ∧ l[j]? = some u ∧ Upd.best l it = some u) := Lib.hid (fun k hk => by
      rcases hk with ⟨hn, -⟩ | ⟨j, u, e, -, hu, hb⟩
      ·rw [List.take_length] at hn
       exact absurd hui ((Upd.best_is _ l it rfl).2 hn u0 hu0)
      ·rw [List.take_length] at hb
       exact ⟨j, u, e, hu, hb⟩)
     have hft := Upd.filterMap_take (Upd.ofItem l P) U n it hit
     have hlen : Hid (((U.take n).filterMap (Upd.ofItem l P)).length ≤ n) := Lib.hid (Nat.le_trans (List.length_filterMap_le _ _) (by rw [List.length_take]; omega))
     have Hft := Lib.hid hft
     obtain ⟨it1, it2⟩ := it
     clear hit hUv hft hu0 hui
     go_wp2_with fail
     refine (BE2.out).mono ?_
     rintro e w3 ⟨⟨k, rfl, hk⟩, h3⟩
     obtain ⟨j, x, rfl, hx, hbx⟩ := hsome.out k hk
     have hxm : x ∈ l := List.mem_of_getElem? hx
     have hUp := H.out w3 (hBw2.out.trans (h3.mono hBw2.out.size))
     obtain ⟨b', o', rfl⟩ : ∃ b o, A = some ⟨b, o, none⟩ := by
      obtain ⟨b, o, c, e, -⟩ := hUp.block (by have := (List.getElem?_eq_some_iff.1 hx).1; omega)
      injection e with e1
      exact ⟨b, o, e1⟩
     have LE := Lib.hid (up_lies (range_rws hUp hx) (up_len x))
     have hj0 : (0 : Int) ≤ (j : Int) := by omega
     have hj1 : (j : Int) < (l.length : Int) := by have := (List.getElem?_eq_some_iff.1 hx).1; omega
     have hA : Below w3.heap.size w3 (w3.alloc (.cells (upV x).toArray 27)) := (Below.refl _ _).alloc (Nat.le_refl _) _
     have O3 := Lib.hid ((hO.out.below h3).below hA)
     have B3 := (hBw2.out.trans (h3.mono hBw2.out.size)).trans (hA.mono (Nat.le_trans hBw2.out.size h3.size))
     have MX := Lib.hid (MA.out x hxm _ B3)
     have RX := Lib.hid (Row.made w3 27 (upV x).toArray)
     have HM := Lib.hid (fun W => rows_made (f := upV) (k := 8) W 27 x)
     have hof : Upd.ofItem l P ⟨it1, it2⟩ = if P x then some x else none := by unfold Upd.ofItem; rw [hbx]
     have hHS : Hid ((Try.prog.info? 27).map (·.size) = some (upV x).length) := Lib.hid (upSize x)
     have hone := Lib.hid (up_one x)
     rw [hof] at Hft
     have LBX : Hid (Lies 27 (w3.alloc (.cells (upV x).toArray 27)) w3.heap.size 0 (upV x)) := Lib.hid (up_lies_row RX.out (up_len x))
     have hz8 : Hid ((#[.int .i64 0, .int .i64 0, .int .i64 0, .int .i64 0, .int .i64 0, .string ⟨#[]⟩, .string ⟨#[]⟩, .bool false] : Array Value).size = (upV x).length) := Lib.hid rfl
     generalize hq : P x = q at Hft MX
     clear hk hx hbx hxm hUp hA B3 hof hq c0 c1 BE2 hO h3 hsome
     cases q with
     | false =>
      have e : (U.take n).filterMap (Upd.ofItem l P) = (U.take (n + 1)).filterMap (Upd.ofItem l P) := by rw [Hft.out, if_neg (by decide)]; simp
      have He := Lib.hid e
      clear e Hft
      go_wp2_with (first | refine wpList_mload (by rfl) _ (by rfl) (by rfl) LE.out ?_ | refine wpList_nstore (by rfl) _ _ (by rfl) (by rfl) (by rfl) hHS.out hz8.out hone.out ?_ | refine wpList_mload (by rfl) _ (by rfl) (by rfl) LBX.out ?_)
      refine (MX.out).mono ?_
      rintro e w4 ⟨rfl, h4⟩
      have ON := O3.out.below h4
      rw [He.out] at ON
      replace ON := Lib.hid ON
      clear h4 O3
      go_wp2_with fail
      exact ⟨⟨n + 1, by omega, by go_num, ON⟩, by show U.length - ((n : Int) + 1).toNat < U.length - (n : Int).toNat; omega⟩
     | true =>
      have e := Hft.out
      rw [if_pos rfl] at e
      have He := Lib.hid e
      clear e Hft
      go_wp2_with (first | refine wpList_mload (by rfl) _ (by rfl) (by rfl) LE.out ?_ | refine wpList_nstore (by rfl) _ _ (by rfl) (by rfl) (by rfl) hHS.out hz8.out hone.out ?_ | refine wpList_mload (by rfl) _ (by rfl) (by rfl) LBX.out ?_)
      refine (MX.out).mono ?_
      rintro e w4 ⟨rfl, h4⟩
      have O4 := Lib.hid (O3.out.below h4)
      have L4 := Lib.hid (up_lies_row (RX.out.below h4 RX.out.inHeap) (up_len x))
      have hown3 := O4.out.1.alloc (.cells (upV x).toArray 27)
      have hmade := HM.out w4
      have hsz3 : wA.heap.size ≤ (w4.alloc (.cells (upV x).toArray 27)).heap.size := by have := O4.out.2.size; simp; omega
      have HO3 := Lib.hid (fun (v2 : Value) (w2 : World) (o : Obj) (h1 : w2.ownsRow wA.heap.size 27 8 v2 (((U.take n).filterMap (Upd.ofItem l P)).length + 1) (((U.take n).filterMap (Upd.ofItem l P)).flatMap upV ++ upV x)) (h2 : _) => O4.out.more (x := x) (o := o) (v' := v2) (w2 := w2) h1 h2)
      have hbs : Hid ((upV x).length = 8) := Lib.hid rfl
      clear h4 O3 LE HM
      generalize (U.take n).filterMap (Upd.ofItem l P) = own at *
      go_wp2_with (first | refine wpList_mload (by rfl) _ (by rfl) (by rfl) L4.out ?_ | refine wpList_buildK (k := 8) rfl 44 27 _ rfl (by rfl) Try.underlying44 hi0 hz0 hz1 (by decide) (by decide) hbs.out ?_ | (at_builtin; refine wp_joins (f := upV) (k := 8) rfl _ _ 44 rfl (wA.heap.size) 27 i0 (upA Upd.zeroU) 80 Try.underlying44 hi0 hz0 hz1 hz2 rfl (by decide) rfl rfl hown3 hmade (fun _ _ => rfl) (fun x _ => up_one x) ?c3 ?c4 hsz3 ?_))
      case c3 => have := hlen.out; have := hUn.out; unfold maxLen; first | omega | (simp <;> omega)
      case c4 => have := hlen.out; have := hUn.out; first | omega | (simp <;> omega)
      intro v3 w3 h1 h2 _
      have hnew := HO3.out v3 w3 _ (by simpa using h1) h2
      rw [show own ++ [x] = own ++ (some x).toList from rfl, ← He.out] at hnew
      replace hnew := Lib.hid hnew
      clear h1 h2 hown3 hmade
      go_wp2_with fail
      exact ⟨⟨n + 1, by omega, by go_num, hnew⟩, by show U.length - ((n : Int) + 1).toNat < U.length - (n : Int).toNat; omega⟩
    ·obtain rfl : n = U.length := by omega
     have hfin := hO.out
     rw [List.take_length, hview.out] at hfin
     have HF := Lib.hid (hfin.since HBw.out)
     clear hO hfin
     go_wp2_with fail
     go_ret
     exact ⟨_, rfl, HF.out⟩
end Go.Proofs.Ytgpeobmaneponaa
namespace Go.Proofs.Ytgpeobmaneponaa
theorem wpAnyH_named {P : Program} {md : Region.Mode} {ops : Array Oper} {Q : Exit → Act → World → Prop} {S : World → Prop} {fuel : Nat} {listed : Array Bool} {a : Act} {w : World}
  (h : ∀ G : Nat → Array Bool → Act → World → Prop, (∀ f l b v, wpAnyH P md ops Q S f l b v → G f l b v) → (∀ f l l' b b' v, G f l' b' v → l = l' → b = b' → wpAnyH P md ops Q S f l b v) → (let fr := a; G fuel listed fr w)) : wpAnyH P md ops Q S fuel listed a w :=
 h _ (fun _ _ _ _ h => h) (fun _ _ _ _ _ _ h e1 e2 => by rw [e1, e2]; exact h)
end Go.Proofs.Ytgpeobmaneponaa
namespace Go.Proofs.Ytgpeobmaneponaa
open List renaming getElem_toArray → z1, getElem_cons_zero → z2, getElem_cons_succ → z3, setIfInBounds_toArray → z4, set_cons_zero → z5, set_cons_succ → z6
open Go.RowKit Go.Sort
theorem rws_flat {α : Type} {k : Nat} {f : α → List Value} {w : World} {g : Nat} {t : TypeId} {l : List α} (hk : ∀ x ∈ l, (f x).length = k) (h : Row w g t (l.flatMap f).toArray) : Rws k f w (fun _ => True) (.slice (some ⟨g, 0, none⟩) l.length l.length) l :=
 ⟨_, l.length, rfl, Nat.le_refl _, fun _ => ⟨g, 0, rfl, trivial, h.inHeap, fun i x hx j u hu => by
  have := rows_at l hk i x hx j u hu
  rw [Nat.zero_add, h.at, List.getElem?_toArray]
  exact this⟩⟩
def Upd.awA : Upd.U := ⟨⟨1, 1⟩, ⟨1, ⟨1, 1⟩⟩, [97], [120], false⟩
def Upd.awB : Upd.U := ⟨⟨1, 1⟩, ⟨1, ⟨2, 1⟩⟩, [97], [], true⟩
theorem Upd.awA_bd : Upd.Bd Upd.awA := ⟨by decide, by decide, by decide, by decide⟩
theorem Upd.awB_bd : Upd.Bd Upd.awB := ⟨by decide, by decide, by decide, by decide⟩
theorem upd_awake (O : UpdateOk) (Z : FilterOk) (w : World) : Calls Try.prog 8 #[] w fun e w' => e = .returned (.bool true) ∧ Below w.heap.size w w' := by
 have mixed : Try.prog.follows .mixedOrders = true := by kernel_rfl
 have hv : Upd.view [Upd.awA, Upd.awB] (Upd.hit Flt.whole) = [Upd.awB] := by decide +kernel
 have w1 : decide (Upd.Wins Upd.awB Upd.awA) = true := by decide +kernel
 have w2 : decide (Upd.Wins Upd.awA Upd.awB) = false := by decide +kernel
 have e1 : Upd.err Upd.awA = 0 := by decide +kernel
 have AL := Lib.hid (fun W => Z.all W)
 have VI : Hid (∀ (W : World) (v fv : Value), Ups W (fun _ => True) v [Upd.awA, Upd.awB] → Cls W (fun _ => True) fv Flt.whole → Calls Try.prog 23 #[v, fv] W fun e w' => ∃ v', e = .returned v' ∧ Ups w' (NewIn W w') v' [Upd.awB] ∧ Below W.heap.size W w') := Lib.hid (fun W v fv h1 h2 => by
  have := O.view h1 h2 (by decide) (fun u hu => by
   rcases List.mem_cons.1 hu with rfl | hu
   ·exact Upd.awA_bd
   ·rw [List.mem_singleton.1 hu]; exact Upd.awB_bd) (by decide) (fun c hc => by rw [List.mem_singleton.1 hc]; exact ⟨by decide, by unfold Go.Proofs.Ytgpeobmaneponaa.Bd Flt.rg; decide⟩)
  rwa [hv] at this)
 have WT : Hid (∀ W, Calls Try.prog 25 #[.agg (upV Upd.awB).toArray, .agg (upV Upd.awA).toArray] W fun e w' => e = .returned (.bool true) ∧ Below W.heap.size W w') := Lib.hid (fun W => by have := O.wins (w := W) Upd.awB Upd.awA; rwa [w1] at this)
 have WF : Hid (∀ W, Calls Try.prog 25 #[.agg (upV Upd.awA).toArray, .agg (upV Upd.awB).toArray] W fun e w' => e = .returned (.bool false) ∧ Below W.heap.size W w') := Lib.hid (fun W => by have := O.wins (w := W) Upd.awA Upd.awB; rwa [w2] at this)
 have CK : Hid (∀ W, Calls Try.prog 11 #[.agg (upV Upd.awA).toArray] W fun e w' => e = .returned (.int .i64 0) ∧ Below W.heap.size W w') := Lib.hid (fun W => by have := O.check (w := W) Upd.awA Upd.awA_bd; rwa [e1] at this)
 have ME : Hid (∀ W, Calls Try.prog 9 #[.agg (upV Upd.awA).toArray] W fun e w' => e = .returned (.agg #[.int .i64 1, .int .i64 1, .int .i64 1, .int .i64 1, .int .i64 1, .string ⟨#[97]⟩, .int .i64 1, .bool false]) ∧ Below W.heap.size W w') := Lib.hid (fun W => O.toMeta (w := W) Upd.awA Upd.awA_bd)
 have hfd : ∀ w, (Instr.field 29 (.agg #[.int .i64 1, .int .i64 1, .int .i64 1, .int .i64 1, .int .i64 1, .string ⟨#[97]⟩, .int .i64 1, .bool false]) 3).run Try.prog w = .ok (.int .i64 1) w := fun _ => by kernel_rfl
 have EB : Hid (∀ w, (binOp .eql 27 (.agg (upV Upd.awB).toArray) (.agg (upV Upd.awB).toArray)).run Try.prog w = .ok (.bool true) w) := Lib.hid (fun w => by have e := up_eql w Upd.awB Upd.awB; rw [decide_eq_true (rfl : Upd.awB = Upd.awB)] at e; exact e)
 obtain ⟨W0, hW0⟩ : ∃ W0, W0 = (w.alloc (.cells #[.int .i64 1, .int .i64 1, .int .i64 1, .int .i64 1, .int .i64 1, .string ⟨#[97]⟩, .string ⟨#[120]⟩, .bool false] 27)).alloc (.cells #[.int .i64 1, .int .i64 1, .int .i64 2, .int .i64 1, .int .i64 1, .string ⟨#[97]⟩, .string ⟨#[]⟩, .bool true] 27) := ⟨_, rfl⟩
 have HB0 : Hid (Below w.heap.size w W0) := Lib.hid (by rw [hW0]; exact ((Below.refl _ _).alloc (Nat.le_refl _) _).alloc (by simp) _)
 have r1 : Row W0 w.heap.size 27 #[.int .i64 1, .int .i64 1, .int .i64 1, .int .i64 1, .int .i64 1, .string ⟨#[97]⟩, .string ⟨#[120]⟩, .bool false] := by rw [hW0]; exact (Row.made w _ _).behindNew _
 have r2 : Row W0 (w.heap.size + 1) 27 #[.int .i64 1, .int .i64 1, .int .i64 2, .int .i64 1, .int .i64 1, .string ⟨#[97]⟩, .string ⟨#[]⟩, .bool true] := by
  rw [hW0]
  have := Row.made (w.alloc (.cells #[.int .i64 1, .int .i64 1, .int .i64 1, .int .i64 1, .int .i64 1, .string ⟨#[97]⟩, .string ⟨#[120]⟩, .bool false] 27)) 27 #[.int .i64 1, .int .i64 1, .int .i64 2, .int .i64 1, .int .i64 1, .string ⟨#[97]⟩, .string ⟨#[]⟩, .bool true]
  rwa [World.size_alloc] at this
 have XA := Lib.hid (fun (W : World) (h : Below W0.heap.size W0 W) => (⟨r1.below h r1.inHeap, r2.below h r2.inHeap⟩ : Row W w.heap.size 27 #[.int .i64 1, .int .i64 1, .int .i64 1, .int .i64 1, .int .i64 1, .string ⟨#[97]⟩, .string ⟨#[120]⟩, .bool false] ∧ Row W (w.heap.size + 1) 27 #[.int .i64 1, .int .i64 1, .int .i64 2, .int .i64 1, .int .i64 1, .string ⟨#[97]⟩, .string ⟨#[]⟩, .bool true]))
 have XL := Lib.hid (fun (W : World) (h : Below W0.heap.size W0 W) => (⟨up_lies_row (cs := upV Upd.awA) (r1.below h r1.inHeap) rfl, up_lies_row (cs := upV Upd.awB) (r2.below h r2.inHeap) rfl⟩ : Lies 27 W w.heap.size 0 (upV Upd.awA) ∧ Lies 27 W (w.heap.size + 1) 0 (upV Upd.awB)))
 clear r1 r2 hv w1 w2 e1
 go_enter Try.func8, Try.ntmps8
 go_wp2_with fail
 rw [← hW0]
 clear hW0
 refine wp_region_held_drew (S := (fun w' : World => Below W0.heap.size W0 w')) (by kernel_rfl) ((Below.refl _ _).drew) (fun hHeld => ?_)
 refine wpAnyH_tk (i := 0) (v := ?_) rfl (Or.inl ⟨by rfl, (by intro w hSw; have rA := (XA.out _ hSw).1; have c0 := rA.at 0; have c1 := rA.at 1; have c2 := rA.at 2; have c3 := rA.at 3; have c4 := rA.at 4; have c5 := rA.at 5; have c6 := rA.at 6; have c7 := rA.at 7; go_simp; try with_reducible rfl)⟩) (by assumption) ?_
 simp only [Act.put, z1, z2, z3, z4, z5, z6]
 refine wpAnyH_tk (i := 1) (v := ?_) rfl (Or.inl ⟨by rfl, (by intro w hSw; have rB := (XA.out _ hSw).2; have d0 := rB.at 0; have d1 := rB.at 1; have d2 := rB.at 2; have d3 := rB.at 3; have d4 := rB.at 4; have d5 := rB.at 5; have d6 := rB.at 6; have d7 := rB.at 7; go_simp; try with_reducible rfl)⟩) (by assumption) ?_
 simp only [Act.put, z1, z2, z3, z4, z5, z6]
 refine wpAnyH_named (fun G hG1 hG2 => ?_)
 intro fr
 have T2_3_4 : ∀ (gl : Nat) (fb : Nat) (fo : Nat) (fc : Nat) (vb : Nat) (vo : Nat) (vc : Nat) (wL : World) (hH : Hid (Below W0.heap.size W0 wL)) (VL : Hid (∀ W : World, Below wL.heap.size wL W → Ups W (fun _ => True) (.slice (some ⟨gl, 0, none⟩) 2 2) [Upd.awA, Upd.awB])) (FA : Hid (∀ W : World, Below wL.heap.size wL W → Cls W (fun _ => True) (.slice (some ⟨fb, fo, none⟩) 1 fc) Flt.whole)) (VV : Hid (∀ W : World, Below wL.heap.size wL W → Ups W (fun _ => True) (.slice (some ⟨vb, vo, none⟩) 1 vc) [Upd.awB])), G 0 #[true, true, true, true, true, true] ((((fr.put (some 15) (.slice (some ⟨gl, 0, none⟩) 2 2)).put (some 16) (.slice (some ⟨fb, fo, none⟩) 1 fc)).put (some 17) (.slice (some ⟨vb, vo, none⟩) 1 vc)).put (some 3) (.slice (some ⟨vb, vo, none⟩) 1 vc)) wL := by
  intro gl fb fo fc vb vo vc wL hH VL FA VV
  refine hG1 _ _ _ _ ?_
  simp only [fr, Act.put, List.getElem_toArray, List.getElem_cons_zero, List.getElem_cons_succ, List.setIfInBounds_toArray, List.set_cons_zero, List.set_cons_succ]
  have hHeld := hH.out
  have XR := Lib.hid (fun (W : World) (h : InB wL W) => (⟨(XL.out W (hHeld.trans (h.below.mono hHeld.size))).1, (XL.out W (hHeld.trans (h.below.mono hHeld.size))).2, up_lies (by have r := range_rws (VV.out W h.below) (show ([Upd.awB] : List Upd.U)[0]? = some Upd.awB from rfl); rwa [Nat.zero_mul, Nat.add_zero] at r) rfl⟩ : Lies 27 W w.heap.size 0 (upV Upd.awA) ∧ Lies 27 W (w.heap.size + 1) 0 (upV Upd.awB) ∧ Lies 27 W vb vo (upV Upd.awB)))
  have HW := Lib.hid hHeld
  refine wpAnyH_done (by kernel_rfl) ?_ _
  clear hHeld VV VL FA hG1 hG2
  go_wp2_with fail
  refine wp_region_below mixed (by kernel_rfl) ?_
  refine wq_mload (by rfl) (.tmp 2) (by rfl) (by rfl) (fun w hSw => (XR.out w hSw).2.1) ?_
  simp only [Act.put, z1, z2, z3, z4, z5, z6]
  refine wq_mload (by rfl) (.tmp 1) (by rfl) (by rfl) (fun w hSw => (XR.out w hSw).1) ?_
  simp only [Act.put, z1, z2, z3, z4, z5, z6]
  refine wq_call (by kernel_rfl) ?hent (fun w hSw => inB_calls hSw (WT.out w)) ?_; (case hent => (intro w hSw; go_simp; first | done | exact ⟨rfl, rfl⟩ | rfl))
  simp only [Act.put, z1, z2, z3, z4, z5, z6]
  refine wq_td ?_
  simp only [Act.put, z1, z2, z3, z4, z5, z6]
  refine wq_mload (by rfl) (.tmp 1) (by rfl) (by rfl) (fun w hSw => (XR.out w hSw).1) ?_
  simp only [Act.put, z1, z2, z3, z4, z5, z6]
  refine wq_mload (by rfl) (.tmp 2) (by rfl) (by rfl) (fun w hSw => (XR.out w hSw).2.1) ?_
  simp only [Act.put, z1, z2, z3, z4, z5, z6]
  refine wq_call (by kernel_rfl) ?hent (fun w hSw => inB_calls hSw (WF.out w)) ?_; (case hent => (intro w hSw; go_simp; first | done | exact ⟨rfl, rfl⟩ | rfl))
  simp only [Act.put, z1, z2, z3, z4, z5, z6]
  refine wq_td ?_
  simp only [Act.put, z1, z2, z3, z4, z5, z6]
  refine wq_td ?_
  simp only [Act.put, z1, z2, z3, z4, z5, z6]
  refine wq_td ?_
  simp only [Act.put, z1, z2, z3, z4, z5, z6]
  refine wq_td ?_
  simp only [Act.put, z1, z2, z3, z4, z5, z6]
  refine wq_td ?_
  simp only [Act.put, z1, z2, z3, z4, z5, z6]
  refine wq_td ?_
  simp only [Act.put, z1, z2, z3, z4, z5, z6]
  refine wq_td ?_
  simp only [Act.put, z1, z2, z3, z4, z5, z6]
  refine wq_td ?_
  simp only [Act.put, z1, z2, z3, z4, z5, z6]
  refine wq_td ?_
  simp only [Act.put, z1, z2, z3, z4, z5, z6]
  refine wq_td ?_
  simp only [Act.put, z1, z2, z3, z4, z5, z6]
  refine wq_mload (by rfl) (.tmp 34) (by rfl) (by rfl) (fun w hSw => (XR.out w hSw).2.2) ?_
  simp only [Act.put, z1, z2, z3, z4, z5, z6]
  refine wq_mload (by rfl) (.tmp 2) (by rfl) (by rfl) (fun w hSw => (XR.out w hSw).2.1) ?_
  simp only [Act.put, z1, z2, z3, z4, z5, z6]
  refine wq_take (v := .bool true) (by kernel_rfl) (by intro w hSw; exact exec_bin (by rfl) (by rfl) (by rfl) upGuard (EB.out w)) ?_
  simp only [Act.put, z1, z2, z3, z4, z5, z6]
  refine wq_td ?_
  simp only [Act.put, z1, z2, z3, z4, z5, z6]
  refine wq_td ?_
  simp only [Act.put, z1, z2, z3, z4, z5, z6]
  refine wq_mload (by rfl) (.tmp 1) (by rfl) (by rfl) (fun w hSw => (XR.out w hSw).1) ?_
  simp only [Act.put, z1, z2, z3, z4, z5, z6]
  refine wq_call (by kernel_rfl) ?hent (fun w hSw => inB_calls hSw (CK.out w)) ?_; (case hent => (intro w hSw; go_simp; first | done | exact ⟨rfl, rfl⟩ | rfl))
  simp only [Act.put, z1, z2, z3, z4, z5, z6]
  refine wq_td ?_
  simp only [Act.put, z1, z2, z3, z4, z5, z6]
  refine wq_td ?_
  simp only [Act.put, z1, z2, z3, z4, z5, z6]
  refine wq_td ?_
  simp only [Act.put, z1, z2, z3, z4, z5, z6]
  refine wq_mload (by rfl) (.tmp 1) (by rfl) (by rfl) (fun w hSw => (XR.out w hSw).1) ?_
  simp only [Act.put, z1, z2, z3, z4, z5, z6]
  refine wq_call (by kernel_rfl) ?hent (fun w hSw => inB_calls hSw (ME.out w)) ?_; (case hent => (intro w hSw; go_simp; first | done | exact ⟨rfl, rfl⟩ | rfl))
  simp only [Act.put, z1, z2, z3, z4, z5, z6]
  refine wq_td ?_
  simp only [Act.put, z1, z2, z3, z4, z5, z6]
  refine wq_td ?_
  simp only [Act.put, z1, z2, z3, z4, z5, z6]
  refine wq_td ?_
  simp only [Act.put, z1, z2, z3, z4, z5, z6]
  refine wq_td ?_
  simp only [Act.put, z1, z2, z3, z4, z5, z6]
  refine wq_nil ?_
  intro wq hq
  go_wp2_with fail
  go_ret
  exact ⟨rfl, HB0.out.trans ((HW.out.trans (hq.below.mono HW.out.size)).mono HB0.out.size)⟩
 have T2_3 : ∀ (gl : Nat) (fb : Nat) (fo : Nat) (fc : Nat) (wL : World) (hH : Hid (Below W0.heap.size W0 wL)) (VL : Hid (∀ W : World, Below wL.heap.size wL W → Ups W (fun _ => True) (.slice (some ⟨gl, 0, none⟩) 2 2) [Upd.awA, Upd.awB])) (FA : Hid (∀ W : World, Below wL.heap.size wL W → Cls W (fun _ => True) (.slice (some ⟨fb, fo, none⟩) 1 fc) Flt.whole)), G 2 #[true, true, true, true, false, false] ((fr.put (some 15) (.slice (some ⟨gl, 0, none⟩) 2 2)).put (some 16) (.slice (some ⟨fb, fo, none⟩) 1 fc)) wL := by
  intro gl fb fo fc wL hH VL FA
  refine hG1 _ _ _ _ ?_
  simp only [fr, Act.put, List.getElem_toArray, List.getElem_cons_zero, List.getElem_cons_succ, List.setIfInBounds_toArray, List.set_cons_zero, List.set_cons_succ]
  have hHeld := hH.out
  refine wpAnyH_ready (rs := [4]) (by kernel_rfl) (by simp) ?_
  refine (AllReadyH.cons rfl (fun K hK => ?_) AllReadyH.nil)
  go_simp
  go_at_call 23
  refine (VI.out wL _ _ (VL.out wL (Below.refl _ _)) (FA.out wL (Below.refl _ _))).mono ?_
  rintro e Y ⟨vV, rfl, hV, hbN⟩
  obtain ⟨vb, vo, vc, eV, -⟩ := hV.block (by decide)
  have eV : vV = .slice (some ⟨vb, vo, none⟩) 1 vc := eV
  subst eV
  have N_VV := fun (W : World) (h : Below Y.heap.size Y W) => ((Rws.below hV h).mono (fun _ _ => trivial) : Ups W (fun _ => True) (.slice (some ⟨vb, vo, none⟩) 1 vc) [Upd.awB])
  have hHN := hHeld.trans (hbN.mono hHeld.size)
  refine hK.out _ _ hHN (fun hHeld => ?_)
  try simp only [Act.put, z1, z2, z3, z4, z5, z6]
  refine wpAnyH_td (i := 5) rfl ?_
  simp only [Act.put, z1, z2, z3, z4, z5, z6]
  exact hG2 _ _ _ _ _ _ (T2_3_4 gl fb fo fc vb vo vc Y (Lib.hid hHN) (Lib.hid (fun W h => VL.out W (hbN.trans (h.mono hbN.size)))) (Lib.hid (fun W h => FA.out W (hbN.trans (h.mono hbN.size)))) (Lib.hid N_VV)) (by kernel_rfl) (by kernel_rfl)
 have T2 : ∀ (gl : Nat) (wL : World) (hH : Hid (Below W0.heap.size W0 wL)) (VL : Hid (∀ W : World, Below wL.heap.size wL W → Ups W (fun _ => True) (.slice (some ⟨gl, 0, none⟩) 2 2) [Upd.awA, Upd.awB])), G 3 #[true, true, true, false, false, false] (fr.put (some 15) (.slice (some ⟨gl, 0, none⟩) 2 2)) wL := by
  intro gl wL hH VL
  refine hG1 _ _ _ _ ?_
  simp only [fr, Act.put, List.getElem_toArray, List.getElem_cons_zero, List.getElem_cons_succ, List.setIfInBounds_toArray, List.set_cons_zero, List.set_cons_succ]
  have hHeld := hH.out
  refine wpAnyH_ready (rs := [3]) (by kernel_rfl) (by simp) ?_
  refine (AllReadyH.cons rfl (fun K hK => ?_) AllReadyH.nil)
  go_simp
  go_at_call 27
  refine (AL.out wL).mono ?_
  rintro e Y ⟨vF, rfl, hF, hbN⟩
  obtain ⟨fb, fo, fc, eF, -⟩ := hF.block (by decide)
  have eF : vF = .slice (some ⟨fb, fo, none⟩) 1 fc := eF
  subst eF
  have N_FA := fun (W : World) (h : Below Y.heap.size Y W) => ((Rws.below hF h).mono (fun _ _ => trivial) : Cls W (fun _ => True) (.slice (some ⟨fb, fo, none⟩) 1 fc) Flt.whole)
  have hHN := hHeld.trans (hbN.mono hHeld.size)
  refine hK.out _ _ hHN (fun hHeld => ?_)
  try simp only [Act.put, z1, z2, z3, z4, z5, z6]
  exact hG2 _ _ _ _ _ _ (T2_3 gl fb fo fc Y (Lib.hid hHN) (Lib.hid (fun W h => VL.out W (hbN.trans (h.mono hbN.size)))) (Lib.hid N_FA)) (by kernel_rfl) (by kernel_rfl)
 have T3 : ∀ (fb : Nat) (fo : Nat) (fc : Nat) (wL : World) (hH : Hid (Below W0.heap.size W0 wL)) (FA : Hid (∀ W : World, Below wL.heap.size wL W → Cls W (fun _ => True) (.slice (some ⟨fb, fo, none⟩) 1 fc) Flt.whole)), G 3 #[true, true, false, true, false, false] (fr.put (some 16) (.slice (some ⟨fb, fo, none⟩) 1 fc)) wL := by
  intro fb fo fc wL hH FA
  refine hG1 _ _ _ _ ?_
  simp only [fr, Act.put, List.getElem_toArray, List.getElem_cons_zero, List.getElem_cons_succ, List.setIfInBounds_toArray, List.set_cons_zero, List.set_cons_succ]
  have hHeld := hH.out
  refine wpAnyH_ready (rs := [2]) (by kernel_rfl) (by simp) ?_
  refine (AllReadyH.cons rfl (fun K hK => ?_) AllReadyH.nil)
  go_simp
  obtain ⟨gl, hgs⟩ : ∃ g, wL.heap.size = g := ⟨_, rfl⟩
  have hrow := Row.made wL 27 #[.int .i64 1, .int .i64 1, .int .i64 1, .int .i64 1, .int .i64 1, .string ⟨#[97]⟩, .string ⟨#[120]⟩, .bool false, .int .i64 1, .int .i64 1, .int .i64 2, .int .i64 1, .int .i64 1, .string ⟨#[97]⟩, .string ⟨#[]⟩, .bool true]
  have hbN : Below wL.heap.size wL (wL.alloc (.cells #[.int .i64 1, .int .i64 1, .int .i64 1, .int .i64 1, .int .i64 1, .string ⟨#[97]⟩, .string ⟨#[120]⟩, .bool false, .int .i64 1, .int .i64 1, .int .i64 2, .int .i64 1, .int .i64 1, .string ⟨#[97]⟩, .string ⟨#[]⟩, .bool true] 27)) := (Below.refl _ _).alloc (Nat.le_refl _) _
  generalize wL.alloc (.cells #[.int .i64 1, .int .i64 1, .int .i64 1, .int .i64 1, .int .i64 1, .string ⟨#[97]⟩, .string ⟨#[120]⟩, .bool false, .int .i64 1, .int .i64 1, .int .i64 2, .int .i64 1, .int .i64 1, .string ⟨#[97]⟩, .string ⟨#[]⟩, .bool true] 27) = Y at *
  rw [hgs] at hrow ⊢
  have N_VL := fun (W : World) (h : Below Y.heap.size Y W) => (rws_flat (f := upV) (k := 8) (l := [Upd.awA, Upd.awB]) (fun _ _ => rfl) (hrow.below h hrow.inHeap) : Ups W (fun _ => True) (.slice (some ⟨gl, 0, none⟩) 2 2) [Upd.awA, Upd.awB])
  have hHN := hHeld.trans (hbN.mono hHeld.size)
  refine hK.out _ _ hHN (fun hHeld => ?_)
  try simp only [Act.put, z1, z2, z3, z4, z5, z6]
  exact hG2 _ _ _ _ _ _ (T2_3 gl fb fo fc Y (Lib.hid hHN) (Lib.hid N_VL) (Lib.hid (fun W h => FA.out W (hbN.trans (h.mono hbN.size))))) (by kernel_rfl) (by kernel_rfl)
 refine hG1 _ _ _ _ ?_
 simp only [fr]
 generalize W0.drew = wd at *
 refine wpAnyH_ready (rs := [2, 3]) (by kernel_rfl) (by simp) ?_
 refine (AllReadyH.cons rfl (fun K hK => ?_) (AllReadyH.cons rfl (fun K hK => ?_) AllReadyH.nil))
 ·go_simp
  obtain ⟨gl, hgs⟩ : ∃ g, wd.heap.size = g := ⟨_, rfl⟩
  have hrow := Row.made wd 27 #[.int .i64 1, .int .i64 1, .int .i64 1, .int .i64 1, .int .i64 1, .string ⟨#[97]⟩, .string ⟨#[120]⟩, .bool false, .int .i64 1, .int .i64 1, .int .i64 2, .int .i64 1, .int .i64 1, .string ⟨#[97]⟩, .string ⟨#[]⟩, .bool true]
  have hbN : Below wd.heap.size wd (wd.alloc (.cells #[.int .i64 1, .int .i64 1, .int .i64 1, .int .i64 1, .int .i64 1, .string ⟨#[97]⟩, .string ⟨#[120]⟩, .bool false, .int .i64 1, .int .i64 1, .int .i64 2, .int .i64 1, .int .i64 1, .string ⟨#[97]⟩, .string ⟨#[]⟩, .bool true] 27)) := (Below.refl _ _).alloc (Nat.le_refl _) _
  generalize wd.alloc (.cells #[.int .i64 1, .int .i64 1, .int .i64 1, .int .i64 1, .int .i64 1, .string ⟨#[97]⟩, .string ⟨#[120]⟩, .bool false, .int .i64 1, .int .i64 1, .int .i64 2, .int .i64 1, .int .i64 1, .string ⟨#[97]⟩, .string ⟨#[]⟩, .bool true] 27) = Y at *
  rw [hgs] at hrow ⊢
  have N_VL := fun (W : World) (h : Below Y.heap.size Y W) => (rws_flat (f := upV) (k := 8) (l := [Upd.awA, Upd.awB]) (fun _ _ => rfl) (hrow.below h hrow.inHeap) : Ups W (fun _ => True) (.slice (some ⟨gl, 0, none⟩) 2 2) [Upd.awA, Upd.awB])
  have hHN := hHeld.trans (hbN.mono hHeld.size)
  refine hK.out _ _ hHN (fun hHeld => ?_)
  try simp only [Act.put, z1, z2, z3, z4, z5, z6]
  exact hG2 _ _ _ _ _ _ (T2 gl Y (Lib.hid hHN) (Lib.hid N_VL)) (by kernel_rfl) (by kernel_rfl)
 ·go_simp
  go_at_call 27
  refine (AL.out wd).mono ?_
  rintro e Y ⟨vF, rfl, hF, hbN⟩
  obtain ⟨fb, fo, fc, eF, -⟩ := hF.block (by decide)
  have eF : vF = .slice (some ⟨fb, fo, none⟩) 1 fc := eF
  subst eF
  have N_FA := fun (W : World) (h : Below Y.heap.size Y W) => ((Rws.below hF h).mono (fun _ _ => trivial) : Cls W (fun _ => True) (.slice (some ⟨fb, fo, none⟩) 1 fc) Flt.whole)
  have hHN := hHeld.trans (hbN.mono hHeld.size)
  refine hK.out _ _ hHN (fun hHeld => ?_)
  try simp only [Act.put, z1, z2, z3, z4, z5, z6]
  exact hG2 _ _ _ _ _ _ (T3 fb fo fc Y (Lib.hid hHN) (Lib.hid N_FA)) (by kernel_rfl) (by kernel_rfl)
end Go.Proofs.Ytgpeobmaneponaa
