import Derived.Test.YtmpajhjfnfcdlaaCom10
import Derived.Test.YtmpajhjfnfcdlaaCom11
import Derived.Test.YtmpajhjfnfcdlaaCom6
import Derived.Test.YtmpajhjfnfcdlaaCom3
import Derived.Test.YtmpajhjfnfcdlaaCom5
import Derived.Test.YtmpajhjfnfcdlaaCom7
import Derived.StringKeys
import Derived.Maps.OwnSet
import Derived.Lib.SlicesCompact
import Derived.Lib.Bytealg
import Derived.Lib.Join
import Derived.Lib.LastIndexByte
import Derived.Lib.Strings
import Derived.Lib.OthersKept
import Derived.WalkMore
import Derived.Shelf.Small.Bits
import Derived.Shelf.Strconv.Itoa0
import Derived.Shelf.LaysM
import Derived.Shelf.Strconv.Clone
import Derived.Shelf.Strings.Search1
import Derived.Shelf.Strings.Search2
import Derived.Shelf.Strings.Cut
import Derived.Shelf.Strings.Shaped
import Derived.Shelf.SlicesQ.IndexFunc
import Derived.Shelf.SlLaysF0
import Derived.Shelf.SlicesE.Clone
import Derived.Test.YtmpajhjfnfcdlaaProg
set_option maxRecDepth 100000
set_option linter.all false
set_option maxHeartbeats 12800000
namespace Go.Proofs.Ytmpajhjfnfcdlaa
open Go.RowKit Go.Sort
theorem pack_str_same (S : ByteArray) : (S.toList == S.toList) = true ∧ (S.toList != S.toList) = false := ⟨by simp, by simp⟩
theorem Pck.smC {c : Flt.Cl} (h : Flt.Right c) : Pck.SmC c := by
 have h1 := Pck.right_pre h
 obtain ⟨-, h2, h3, h4⟩ := h
 exact ⟨by omega, by omega, by unfold Go.Proofs.Ytmpajhjfnfcdlaa.Bd Flt.rg; simp only; omega⟩
theorem pack_flt_facts (FO : FilterOk) (f : List Flt.Cl) (hl : f.length ≤ 100) : ∃ (A : ByteArray) (ea : Int) (may : Bool) (S1 : ByteArray) (X1 : List Flt.Cl) (g1 : Int), ((may = true ∧ A = S1 ∧ ea = 0) ∨ (may = false ∧ A = ⟨#[]⟩ ∧ ea = 2)) ∧ (may = decide (Pck.OkFlt f) ∧ A = mk (Pck.putFlt f).1 ∧ ea = (Pck.putFlt f).2 ∧ S1 = mk (Pck.lst Pck.clR f)) ∧ (∀ W : World, Calls Try.prog 29 #[.string A] W fun e w' => (∃ v, e = .returned (.tuple #[v, .int .i64 g1]) ∧ Cls w' (NewIn W w') v X1) ∧ Below W.heap.size W w') ∧ (may = true → X1 = f ∧ g1 = 0) ∧ X1.length ≤ 65536 := by
 have hlen : ∀ s, (Pck.getFlt s).1.length ≤ 65536 := fun s => by
  rcases Pck.get_ways2 (rd := Pck.rdFlt) (ok := Pck.OkFlt) (f := Pck.flt) (zero := []) s with ⟨h1, h2, h3, h4⟩ | h1
  ·rw [show Pck.getFlt s = _ from h1]; have := h2.1; simp only; omega
  ·rw [show Pck.getFlt s = _ from h1]; simp
 by_cases hok : Pck.OkFlt f
 ·have hle := Pck.flt_le hok
  have hp : Pck.putFlt f = (Pck.flt f, 0) := Pck.put_good hok (by omega)
  have hg : Pck.getFlt (Pck.flt f) = (f, 0) := Pck.get_back hok (Pck.takes_flt hok) (by omega)
  refine ⟨mk (Pck.flt f), 0, true, mk (Pck.lst Pck.clR f), f, 0, Or.inl ⟨rfl, by rw [Pck.fltR_is hok], rfl⟩, ⟨(decide_eq_true hok).symm, by rw [hp], by rw [hp], rfl⟩, fun W => ?_, fun _ => ⟨rfl, rfl⟩, by omega⟩
  have := pck_GetFilter FO (Pck.flt f) (by omega) W
  rwa [hg] at this
 ·have hp : Pck.putFlt f = ([], 2) := Pck.put_bad hok
  refine ⟨⟨#[]⟩, 2, false, mk (Pck.lst Pck.clR f), (Pck.getFlt []).1, (Pck.getFlt []).2, Or.inr ⟨rfl, rfl, rfl⟩, ⟨(decide_eq_false hok).symm, by rw [hp]; rfl, by rw [hp], rfl⟩, fun W => pck_GetFilter FO [] (by simp) W, fun h => (by cases h), hlen []⟩
theorem pack_flt_any (FO : FilterOk) (s : List UInt8) (hs : s.length ≤ 140737488355328) : ∃ (X2 : List Flt.Cl) (g3 : Int), Pck.getFlt s = (X2, g3) ∧ ((g3 = 0 ∧ X2.length ≤ 64 ∧ (∀ (W : World) (F : Nat → Prop) (v : Value), Cls W F v X2 → Calls Try.prog 27 #[v] W fun e w' => e = .returned (.bool true) ∧ Below W.heap.size W w') ∧ ∀ (W : World) (F : Nat → Prop) (v : Value), Cls W F v X2 → Calls Try.prog 28 #[v] W fun e w' => e = .returned (.string (mk s)) ∧ Below W.heap.size W w') ∨ (g3 = 6 ∧ X2 = [])) := by
 rcases Pck.get_ways2 (rd := Pck.rdFlt) (ok := Pck.OkFlt) (f := Pck.flt) (zero := []) s with ⟨h1, h2, h3, h4⟩ | h1
 ·refine ⟨_, _, h1, Or.inl ⟨rfl, h2.1, fun W F v h => ?_, fun W F v h => ?_⟩⟩
  ·have := ref_pclauses h (by have := h2.1; omega) (fun c hc => by have := Pck.right_pre (h2.2 c hc); omega)
   rwa [decide_eq_true h2] at this
  ·have := ref_pflt h (by have := h2.1; omega) (fun c hc => Pck.smC (h2.2 c hc))
   rwa [Pck.fltR_is h2, h3] at this
 ·exact ⟨_, _, h1, Or.inr ⟨rfl, rfl⟩⟩
theorem pack_filters_walk (FO : FilterOk) (V : VecOk) {w : World} {F : Nat → Prop} {v : Value} {f : List Flt.Cl} (s : List UInt8) (hf : Cls w F v f) (lf : f.length ≤ 9223372036854775807) (bf : ∀ c ∈ f, c.pre.length ≤ 9223372036854775807 ∧ Bd (Flt.rg c)) (hs : s.length ≤ 9223372036854775807) :
  Calls Try.prog 5 #[v, .string (mk s)] w fun e w' => e = .returned (.bool true) ∧ Below w.heap.size w w' := by
 have AW := Lib.hid (fun W => pck_awake V W)
 obtain ⟨A, cap, rfl, hcap⟩ := hf.parts
 have H := Lib.hid hf
 have lf' : (f.length : Int) ≤ 9223372036854775807 := by omega
 have BF := Lib.hid bf
 have LS := mk_len s
 have LL := Lib.hid (And.intro LS hs)
 clear hf bf hs LS
 generalize hS0 : mk s = S at *
 go_enter Try.func5, Try.ntmps5
 go_wp2_with fail
 go_loopw [5] (fun i wr => ∃ n : Nat, n ≤ f.length ∧ i = .int .i64 (n : Int) ∧ Hid (∀ x ∈ f.take n, x.pre.length ≤ 200) ∧ Below w.heap.size w wr) (fun i _ => f.length - (intOf i).toNat)
 case atStart => exact ⟨0, Nat.zero_le _, rfl, Lib.hid (by simp), Below.refl _ _⟩
 case round =>
  obtain ⟨n, hn, rfl, hall, hbel⟩ := hrel
  by_cases hlt : n < f.length
  ·obtain ⟨b, o, cap1, e, -, -, hb⟩ := H.out.block (by omega)
   injection e with e1 e2 e3
   subst e1 e3
   clear e2
   obtain ⟨x, hx⟩ : ∃ x, f[n]? = some x := ⟨_, List.getElem?_eq_getElem hlt⟩
   obtain ⟨d0, d1, d2⟩ := Cls.at (Rws.below H.out hbel) hx
   have hn0 : (0 : Int) ≤ (n : Int) := by omega
   have hn1 : (n : Int) < (f.length : Int) := by omega
   have hpl := mk_len x.pre
   have HBL := Lib.hid hbel
   have Hlt := Lib.hid hlt
   clear hb hlt hn hbel
   by_cases hr : x.pre.length ≤ 200
   ·have hp : ¬ (200 : Int) < ((mk x.pre).size : Int) := by omega
    have hnext : Hid (∀ y ∈ f.take (n + 1), y.pre.length ≤ 200) := Lib.hid (by
     obtain ⟨h1, e1⟩ := List.getElem?_eq_some_iff.1 hx
     intro y hy
     rw [List.take_succ_eq_append_getElem h1, e1] at hy
     rcases List.mem_append.1 hy with hy | hy
     ·exact hall.out y hy
     ·rw [List.mem_singleton.1 hy]; exact hr)
    clear hx hr hall hpl
    generalize mk x.pre = q at *
    go_wp2_with fail
    go_roundw
    case rel => exact ⟨n + 1, by have := Hlt.out; omega, by go_num, hnext, HBL.out⟩
    case measure => (have := Hlt.out; simp [intOf]; omega)
   ·have hp : (200 : Int) < ((mk x.pre).size : Int) := by omega
    clear hx hr hall hpl
    generalize mk x.pre = q at *
    go_wp2_with fail
    refine (AW.out _).mono ?_
    rintro e w2 ⟨rfl, b2⟩
    have B2 := Lib.hid (HBL.out.trans (b2.mono HBL.out.size))
    clear b2
    go_wp2_with fail
    go_ret
    exact ⟨rfl, B2.out⟩
  ·obtain rfl : n = f.length := by omega
   have hall2 : ∀ x ∈ f, x.pre.length ≤ 200 := by have := hall.out; rwa [List.take_length] at this
   have B0 := Lib.hid hbel
   by_cases l1 : f.length ≤ 100
   ·have hx1 : ¬ (100 : Int) < (f.length : Int) := by omega
    by_cases l2 : s.length ≤ 2000
    ·have hx2 : ¬ (2000 : Int) < (S.size : Int) := by have := LL.out.1; omega
     have hbd : ∀ c ∈ f, Flt.Bd c := fun c hc => ⟨by have := hall2 c hc; omega, (BF.out c hc).2⟩
     have hsm : ∀ c ∈ f, Pck.SmC c := fun c hc => ⟨by have := hall2 c hc; omega, hbd c hc⟩
     have PF := Lib.hid (fun (W : World) (hW : Below w.heap.size w W) => pck_PutFilter FO (Rws.below H.out hW) (by omega) hbd)
     have RC := Lib.hid (fun (W : World) (hW : Below w.heap.size w W) => ref_pclauses (Rws.below H.out hW) (by omega) (fun c hc => (hbd c hc).1))
     have WF := Lib.hid (fun (W : World) (hW : Below w.heap.size w W) => ref_pflt (Rws.below H.out hW) (by omega) hsm)
     have GS := Lib.hid (fun W => pck_GetFilter FO s (by omega) W)
     rw [hS0] at GS
     obtain ⟨A1, ea, may, S1, X1, g1, hA, hput, hget, hXu, hXl⟩ := pack_flt_facts FO f l1
     obtain ⟨p1, p2, p3, p4⟩ := hput
     rw [← p2, ← p3] at PF
     rw [← p1] at RC
     rw [← p4] at WF
     have AN1 := Lib.hid (fun W => pck_answer A1 S1 ea may hA W)
     have GU := Lib.hid hget
     have EQ := Lib.hid (fun (W : World) (hW : Below w.heap.size w W) (G : Nat → Prop) (u : Value) (hu : Cls W G u X1) => ref_fequal hu (Rws.below H.out hW) (by omega) (by omega))
     obtain ⟨X2, g3, hX2, hXs⟩ := pack_flt_any FO s (by omega)
     rw [hX2] at GS
     dsimp only at GS
     rw [hS0] at hXs
     have hS := pack_str_same S
     have FU0 : Hid (ea = 0 ∧ f = X1 ∧ g1 = 0 ∨ ea = 2) := Lib.hid (by rcases hA with ⟨h1, -, h3⟩ | ⟨-, -, h3⟩; exact Or.inl ⟨h3, (hXu h1).1.symm, (hXu h1).2⟩; exact Or.inr h3)
     clear hA p1 p2 p3 p4 hget hXu hX2 l1 l2 hall hall2 hbd hsm hbel hlt hn hXl
     go_wp2_with fail
     refine (PF.out _ B0.out).mono ?_
     rintro e w1 ⟨rfl, b1⟩
     have B1 := Lib.hid (B0.out.trans (b1.mono B0.out.size))
     clear b1
     go_wp2_with fail
     refine (RC.out _ B1.out).mono ?_
     rintro e w2 ⟨rfl, b2⟩
     have B2 := Lib.hid (B1.out.trans (b2.mono B1.out.size))
     clear b2
     go_wp2_with fail
     refine (WF.out _ B2.out).mono ?_
     rintro e w3 ⟨rfl, b3⟩
     have B3 := Lib.hid (B2.out.trans (b3.mono B2.out.size))
     clear b3
     go_wp2_with fail
     refine (AN1.out _).mono ?_
     rintro e w4 ⟨rfl, b4⟩
     have B4 := Lib.hid (B3.out.trans (b4.mono B3.out.size))
     clear b4
     go_wp2_with fail
     refine (GU.out _).mono ?_
     rintro e w5 ⟨⟨u, rfl, h5⟩, b5⟩
     have B5 := Lib.hid (B4.out.trans (b5.mono B4.out.size))
     have U5 := Lib.hid h5
     clear b5 h5
     rcases FU0.out with ⟨f1, f2, f3⟩ | f1
     ·have EQ5 := EQ.out _ B5.out _ _ U5.out
      rw [decide_eq_true f2.symm] at EQ5
      replace EQ5 := Lib.hid EQ5
      subst f1 f3
      clear f2
      obtain ⟨A5, c5, e5, -⟩ := U5.out.parts
      subst e5
      go_wp2_with fail
      refine EQ5.out.mono ?_
      rintro e w6 ⟨rfl, b6⟩
      have B6 := Lib.hid (B5.out.trans (b6.mono B5.out.size))
      clear b6
      go_wp2_with fail
      refine (GS.out _).mono ?_
      rintro e w7 ⟨⟨v7, rfl, h7⟩, b7⟩
      have B7 := Lib.hid (B6.out.trans (b7.mono B6.out.size))
      have U7 := Lib.hid h7
      clear b7 h7
      go_wp2_with fail
      refine (AW.out _).mono ?_
      rintro e w8 ⟨rfl, b8⟩
      have B8 := Lib.hid (B7.out.trans (b8.mono B7.out.size))
      have U8 := Lib.hid (Rws.below U7.out b8)
      clear b8
      rcases hXs with ⟨g5, g8, g6, g7⟩ | ⟨g5, g6⟩
      ·subst g5
       obtain ⟨A8, c8, e8, -⟩ := U8.out.parts
       subst e8
       go_wp2_with fail
       refine (g6 _ _ _ U8.out).mono ?_
       rintro e w9 ⟨rfl, b9⟩
       have B9 := Lib.hid (B8.out.trans (b9.mono B8.out.size))
       have U9 := Lib.hid (Rws.below U8.out b9)
       clear b9
       go_wp2_with fail
       refine (g7 _ _ _ U9.out).mono ?_
       rintro e w10 ⟨rfl, b10⟩
       have B10 := Lib.hid (B9.out.trans (b10.mono B9.out.size))
       clear b10
       go_wp2_with fail
       go_ret
       exact ⟨rfl, B10.out⟩
      ·subst g5 g6
       obtain ⟨A8, c8, e8, -⟩ := U8.out.parts
       subst e8
       go_wp2_with fail
       go_ret
       exact ⟨rfl, B8.out⟩
     ·have hne : (ea == 0) = false := by rw [f1]; rfl
      clear f1
      go_wp2_with fail
      refine (GS.out _).mono ?_
      rintro e w7 ⟨⟨v7, rfl, h7⟩, b7⟩
      have B7 := Lib.hid (B5.out.trans (b7.mono B5.out.size))
      have U7 := Lib.hid h7
      clear b7 h7
      go_wp2_with fail
      refine (AW.out _).mono ?_
      rintro e w8 ⟨rfl, b8⟩
      have B8 := Lib.hid (B7.out.trans (b8.mono B7.out.size))
      have U8 := Lib.hid (Rws.below U7.out b8)
      clear b8
      rcases hXs with ⟨g5, g8, g6, g7⟩ | ⟨g5, g6⟩
      ·subst g5
       obtain ⟨A8, c8, e8, -⟩ := U8.out.parts
       subst e8
       go_wp2_with fail
       refine (g6 _ _ _ U8.out).mono ?_
       rintro e w9 ⟨rfl, b9⟩
       have B9 := Lib.hid (B8.out.trans (b9.mono B8.out.size))
       have U9 := Lib.hid (Rws.below U8.out b9)
       clear b9
       go_wp2_with fail
       refine (g7 _ _ _ U9.out).mono ?_
       rintro e w10 ⟨rfl, b10⟩
       have B10 := Lib.hid (B9.out.trans (b10.mono B9.out.size))
       clear b10
       go_wp2_with fail
       go_ret
       exact ⟨rfl, B10.out⟩
      ·subst g5 g6
       obtain ⟨A8, c8, e8, -⟩ := U8.out.parts
       subst e8
       go_wp2_with fail
       go_ret
       exact ⟨rfl, B8.out⟩
    ·have hx2 : (2000 : Int) < (S.size : Int) := by have := LL.out.1; omega
     clear hall hall2 hbel hlt hn l1 l2
     go_wp2_with fail
     refine (AW.out _).mono ?_
     rintro e w2 ⟨rfl, b2⟩
     have B2 := Lib.hid (B0.out.trans (b2.mono B0.out.size))
     clear b2
     go_wp2_with fail
     go_ret
     exact ⟨rfl, B2.out⟩
   ·have hx1 : (100 : Int) < (f.length : Int) := by omega
    clear hall hall2 hbel hlt hn l1
    go_wp2_with fail
    refine (AW.out _).mono ?_
    rintro e w2 ⟨rfl, b2⟩
    have B2 := Lib.hid (B0.out.trans (b2.mono B0.out.size))
    clear b2
    go_wp2_with fail
    go_ret
    exact ⟨rfl, B2.out⟩
open Go.RowKit
namespace Tm
def raw (v : Value) : Option (DataW Value × List MemPlace) := some (.held v, [])
abbrev Pr := List UInt8 × Value
abbrev Fn := List UInt8 → Option Value
def ent (p : Pr) : Lit × DataW Value := (.string p.1, .held p.2)
def datum (l : List Pr) : DataW Value := .map (l.map ent)
theorem same (a b : List UInt8) : Lit.sameKey (.string a) (.string b) = decide (a = b) := by
 show (a == b) = _
 rw [Bool.eq_iff_iff]; simp
def Tells (l : List Pr) (m : Fn) : Prop := ∀ k, (l.find? fun p => decide (p.1 = k)) = (m k).map fun v => (k, v)
def insP (x : Pr) : List Pr → List Pr
 | [] => [x]
 | y :: r => if bytesBefore x.1 y.1 = true then x :: y :: r else y :: insP x r
theorem insP_find (x : Pr) (q : List UInt8) : ∀ l : List Pr, (∀ p ∈ l, p.1 ≠ x.1) → (insP x l).find? (fun p => decide (p.1 = q)) = if q = x.1 then some x else l.find? fun p => decide (p.1 = q)
 | [], _ => by
  unfold insP
  rw [List.find?_cons]
  by_cases h : q = x.1
  ·rw [if_pos h]; simp [h]
  ·rw [if_neg h]
   have : decide (x.1 = q) = false := decide_eq_false (fun e => h e.symm)
   rw [this]
 | y :: l, hl => by
  have hy := hl y (by simp)
  have ih := insP_find x q l (fun p hp => hl p (List.mem_cons_of_mem _ hp))
  unfold insP
  split
  ·rw [List.find?_cons]
   by_cases h : q = x.1
   ·rw [if_pos h]; simp [h]
   ·rw [if_neg h]
    have : decide (x.1 = q) = false := decide_eq_false (fun e => h e.symm)
    rw [this]
  ·rw [List.find?_cons, ih]
   by_cases h : q = x.1
   ·rw [if_pos h, if_pos h]
    have : decide (y.1 = q) = false := decide_eq_false (fun e => hy (by rw [e, h]))
    rw [this]
   ·rw [if_neg h, if_neg h, List.find?_cons]
def set (m : Fn) (k : List UInt8) (v : Value) : Fn := fun q => if q = k then some v else m q
theorem find_filter (l : List Pr) (k q : List UInt8) (h : q ≠ k) : (l.filter fun p => decide (p.1 ≠ k)).find? (fun p => decide (p.1 = q)) = l.find? fun p => decide (p.1 = q) := by
 rw [List.find?_filter]
 congr 1
 funext p
 by_cases e : p.1 = q
 ·simp [e, h]
 ·simp [e]
theorem Tells.put {l : List Pr} {m : Fn} (h : Tells l m) (k : List UInt8) (v : Value) : Tells (insP (k, v) (l.filter fun p => decide (p.1 ≠ k))) (set m k v) := by
 intro q
 rw [insP_find _ _ _ (fun p hp => by simpa using (List.mem_filter.1 hp).2)]
 unfold set
 by_cases e : q = k
 ·subst e
  simp
 ·rw [if_neg e, if_neg e, find_filter _ _ _ e]
  exact h q
theorem key {k : ByteArray} (h : k.size ≤ 9223372036854775807) : keyOf Try.prog 9 (.string k) = some (.string k.data.toList) := Go.WideMaps.keyOf_string_mk Try.underlying9 h
end Tm
def TmAt (w : World) (bm : Nat) (m : Tm.Fn) (n : Nat) : Prop := ∃ l, Tm.Tells l m ∧ l.length ≤ n ∧ w.ownsMap Try.prog 9 Tm.raw bm l.length (Tm.datum l)
section
variable {w w' : World} {bm n : Nat} {m : Tm.Fn} {F G : Nat → Prop}
theorem TmAt.lt (h : TmAt w bm m n) : bm < w.heap.size := by
 obtain ⟨l, -, -, h⟩ := h
 exact World.ownsMap.lt h
theorem TmAt.kept (h : TmAt w bm m n) (k : Kept G w w') (hd : ¬ G bm) : TmAt w' bm m n := by
 have hl := h.lt
 obtain ⟨l, h1, h2, es, clock, hb, r⟩ := h
 exact ⟨l, h1, h2, es, clock, (k.block bm hl hd).trans hb, r⟩
theorem TmAt.below (h : TmAt w bm m n) (k : Below w.heap.size w w') : TmAt w' bm m n := h.kept (Kept.ofBelow k (fun _ => False)) (fun h => h)
theorem TmAt.made (w : World) : TmAt (w.alloc (.map #[] 0)) w.heap.size (fun _ => none) 0 := ⟨[], fun _ => rfl, Nat.le_refl _, World.ownsMap_made w _ _ _⟩
end
namespace Pth
end Pth
namespace Flt
def lev (P : List Cl) (q : Tx) : List Sz.Rg := Sz.norm (sizes P q)
def Fits (P : List Cl) (dom : Tx → Prop) : Prop := (∀ q, dom q → ∃ c ∈ P, c.pre = q) ∧ ∀ q, ¬ dom q → (q = [] → lev P [] = []) ∧ (q ≠ [] → lev P q = lev P (Pth.parent q))
end Flt
end Go.Proofs.Ytmpajhjfnfcdlaa
namespace Go.Proofs.Ytmpajhjfnfcdlaa.Pth
def lens : List Tx → Nat
 | [] => 0
 | t :: l => t.length + 1 + lens l
theorem lens_append (a b : List Tx) : lens (a ++ b) = lens a + lens b := by
 induction a with
 | nil => simp [lens]
 | cons t a ih => simp only [List.cons_append, lens, ih]; omega
theorem lens_splitA (s : Tx) : ∀ cur, lens (splitA cur s) = cur.length + s.length + 1 := by
 induction s with
 | nil => intro cur; simp [splitA, lens]
 | cons c s ih =>
  intro cur
  unfold splitA
  split
  ·simp only [lens, ih, List.length_nil, List.length_cons]; omega
  ·rw [ih]; simp only [List.length_append, List.length_cons, List.length_nil]; omega
theorem splitA_step (cur : Tx) (c : UInt8) (s : Tx) : splitA cur (c :: s) = if c.toNat = 47 then cur :: splitA [] s else splitA (cur ++ [c]) s := by rw [splitA]
theorem splitA_no {s : Tx} (h : ∀ c ∈ s, c.toNat ≠ 47) : ∀ cur, splitA cur s = [cur ++ s] := by
 induction s with
 | nil => intro cur; simp [splitA]
 | cons c s ih =>
  intro cur
  unfold splitA
  rw [if_neg (h c (List.mem_cons_self ..)), ih (fun x hx => h x (List.mem_cons_of_mem _ hx))]
  simp
theorem splitA_at {a : Tx} (h : ∀ c ∈ a, c.toNat ≠ 47) (b : Tx) : ∀ cur, splitA cur (a ++ 47 :: b) = (cur ++ a) :: splitA [] b := by
 induction a with
 | nil =>
  intro cur
  show splitA cur (47 :: b) = _
  rw [splitA_step, if_pos (by decide)]; simp
 | cons c a ih =>
  intro cur
  show splitA cur (c :: (a ++ 47 :: b)) = _
  rw [splitA_step, if_neg (h c (List.mem_cons_self ..)), ih (fun x hx => h x (List.mem_cons_of_mem _ hx))]
  simp
def Fit (d : List Tx) : Prop := (∀ t ∈ d, Name t) ∧ d.length ≤ 6 ∧ lens d ≤ 41
theorem fit_nil : Fit [] := ⟨by simp, by simp, by simp [lens]⟩
def Next (d : List Tx) (t : Tx) : Prop := Name t ∧ (0 : Int) ≤ (6 - (d.length : Int)) - 1 ∧ (0 : Int) ≤ (41 - (lens d : Int)) - ((t.length : Int) + 1)
instance (d : List Tx) (t : Tx) : Decidable (Next d t) := inferInstanceAs (Decidable (_ ∧ _))
theorem fit_next {d : List Tx} {t : Tx} (h : Fit d) (k : Next d t) : Fit (d ++ [t]) := by
 obtain ⟨h1, h2, h3⟩ := h
 obtain ⟨k1, k2, k3⟩ := k
 refine ⟨?_, ?_, ?_⟩
 ·intro x hx
  rcases List.mem_append.1 hx with hx | hx
  ·exact h1 x hx
  ·rw [List.mem_singleton.1 hx]; exact k1
 ·rw [List.length_append, List.length_singleton]; omega
 ·rw [lens_append]; simp only [lens]; omega
theorem fit_not {d e : List Tx} {t : Tx} (k : ¬ Next d t) : ¬ Fit (d ++ t :: e) := by
 rintro ⟨h1, h2, h3⟩
 apply k
 rw [List.length_append, List.length_cons] at h2
 rw [lens_append] at h3
 simp only [lens] at h3
 exact ⟨h1 t (by simp), by omega, by omega⟩
theorem right_fit (s : Tx) : Right s ↔ Fit (split s) := by
 have h := lens_splitA s []
 rw [List.length_nil, Nat.zero_add] at h
 constructor
 ·rintro ⟨h1, h2, h3⟩
  exact ⟨h1, h3, by unfold split; omega⟩
 ·rintro ⟨h1, h2, h3⟩
  exact ⟨h1, by unfold split at h3; omega, h2⟩
theorem index_cases : ∀ s : Tx, (Lib.indexByte s 47 = -1 ∧ ∀ c ∈ s, c.toNat ≠ 47) ∨ ∃ a b, s = a ++ 47 :: b ∧ (∀ c ∈ a, c.toNat ≠ 47) ∧ Lib.indexByte s 47 = (a.length : Int)
 | [] => Or.inl ⟨rfl, by simp⟩
 | c :: s => by
  by_cases hc : c = 47
  ·subst hc
   exact Or.inr ⟨[], s, rfl, by simp, rfl⟩
  ·have hc2 : c.toNat ≠ 47 := fun e => hc (UInt8.toNat_inj.1 e)
   have hb : (c == 47) = false := by rw [beq_eq_false_iff_ne]; exact hc
   rcases index_cases s with ⟨h1, h2⟩ | ⟨a, b, rfl, h2, h3⟩
   ·refine Or.inl ⟨?_, ?_⟩
    ·show (if c == 47 then 0 else if Lib.indexByte s 47 == -1 then -1 else Lib.indexByte s 47 + 1) = _
     rw [hb, h1]; rfl
    ·intro x hx
     rcases List.mem_cons.1 hx with rfl | hx
     ·exact hc2
     ·exact h2 x hx
   ·refine Or.inr ⟨c :: a, b, rfl, ?_, ?_⟩
    ·intro x hx
     rcases List.mem_cons.1 hx with rfl | hx
     ·exact hc2
     ·exact h2 x hx
    ·show (if c == 47 then 0 else if Lib.indexByte (a ++ 47 :: b) 47 == -1 then -1 else Lib.indexByte (a ++ 47 :: b) 47 + 1) = _
     rw [hb, h3]
     have : (((a.length : Nat) : Int) == -1) = false := by rw [beq_eq_false_iff_ne]; omega
     rw [this]
     simp
end Go.Proofs.Ytmpajhjfnfcdlaa.Pth
namespace Go.Proofs.Ytmpajhjfnfcdlaa
open Go.RowKit
theorem rune_cases (s : ByteArray) (k : Nat) (h : k < s.size) {c : UInt8} (hc : s.data.toList[k]? = some c) : ∃ r wd : Nat, (Utf8.decode s k).1 = r ∧ (Utf8.decode s k).2 = wd ∧ r ≤ 2147483647 ∧ 1 ≤ wd ∧ (r < 128 → r = c.toNat ∧ wd = 1) ∧ (128 ≤ r → 128 ≤ c.toNat) := by
 have hc' : s[k]'h = c := by
  rw [List.getElem?_eq_getElem (by rw [← Lib.size_eq]; exact h), Array.getElem_toList] at hc
  injection hc
 refine ⟨_, _, rfl, rfl, decode_le s k, ?_, ?_, ?_⟩
 all_goals
  by_cases ha : (s[k]'h).toNat < 128
  ·rw [decode_ascii s k h ha, hc']
   rw [hc'] at ha
   first | omega | (intro; exact ⟨rfl, rfl⟩) | (intro hh; simp only at hh; omega)
  ·have := decode_high s k h (by omega)
   rw [hc'] at ha
   omega
theorem good_cases (n : Nat) : n = 46 ∨ (97 ≤ n ∧ n ≤ 122) ∨ (48 ≤ n ∧ n ≤ 57) ∨ n = 45 ∨ n = 95 ∨ n < 45 ∨ n = 47 ∨ (57 < n ∧ n < 95) ∨ n = 96 ∨ 122 < n := by omega
theorem pth_isname (s : List UInt8) (w : World) (hs : s.length ≤ 100000) :
    Calls Try.prog 134 #[.string (mk s)] w fun e w' => e = .returned (.bool (decide (Pth.Name s))) ∧ Below w.heap.size w w' := by
  have ls : (mk s).size = s.length := mk_len s
  have hS : ((mk s).size : Int) ≤ 100000 := by rw [ls]; omega
  by_cases h12 : s.length ≤ 12
  · have g1 : decide ((12 : Int) < ((mk s).size : Int)) = false := by rw [ls]; exact decide_eq_false (by omega)
    have Ls := Lib.hid ls
    clear ls
    generalize hxs : mk s = xs at *
    have Hxs := Lib.hid hxs
    go_enter Try.func134, Try.ntmps134
    go_wp2_with fail
    go_step3
    go_wp2_with fail
    go_step3
    go_wp2_with fail
    go_loopw [3, 4] (fun g d wr => ∃ k : Nat, k ≤ s.length ∧ g = .int .i64 (k : Int) ∧ d = .int .i64 (Pth.dots (s.take k) : Int) ∧ (∀ c ∈ s.take k, Pth.okChar c = true) ∧ wr.heap[w.heap.size]? = some (.stringIter xs k) ∧ Below w.heap.size w wr) (fun _ _ wr => s.length - wr.iterPos w.heap.size)
    case atStart => exact ⟨0, Nat.zero_le _, rfl, rfl, by simp, by have := World.iter_heap w xs 0; simpa using this, by first | exact (Below.refl _ w).alloc (Nat.le_refl _) _ | simpa using (Below.refl _ w).alloc (Nat.le_refl _) (.stringIter xs 0)⟩
    case round =>
      obtain ⟨k, hk, rfl, rfl, hall, hit, hbel⟩ := hrel
      have hk0 : (0 : Int) ≤ (k : Int) := by omega
      have hdk : Pth.dots (s.take k) ≤ k := by
        have := List.countP_le_length (p := fun c : UInt8 => c.toNat == 46) (l := s.take k)
        rw [List.length_take] at this
        unfold Pth.dots; omega
      have Hall := Lib.hid hall
      have Hbel := Lib.hid hbel
      clear hall hbel
      by_cases hlt : k < s.length
      · have hlx : k < xs.size := by have := Ls.out; omega
        obtain ⟨c, hc, ic⟩ := idx xs k hlx
        clear ic
        obtain ⟨r, wd, e1, e2, hr, hw1, hlow, hhigh⟩ := rune_cases xs k hlx hc
        have hnx : ∀ ty, (Instr.next (.pointer (some ⟨w.heap.size, 0, none⟩)) true ty).run Try.prog wr = .ok (.tuple #[.bool true, .int .i64 k, .int .i32 (r : Int)]) (wr.iterAt w.heap.size xs (k + wd)) := fun ty => by
          rw [Lib.run_next_any_at wr w.heap.size xs k ty hit hlx, e1, e2]
        have hit2 := Lib.hid (Lib.iterAt_heap wr w.heap.size xs k (k + wd) hit)
        have hbel2 := Lib.hid (Lib.below_iterAt Hbel.out (k := w.heap.size) (Nat.le_refl _) xs (k + wd))
        have hsc : s[k]? = some c := by rw [← hc, ← Hxs.out, mk_data]
        obtain ⟨hl, he⟩ := List.getElem?_eq_some_iff.1 hsc
        have htk : s.take (k + 1) = s.take k ++ [c] := by rw [List.take_succ_eq_append_getElem hl, he]
        have hdn : Hid (Pth.dots (s.take (k + 1)) = Pth.dots (s.take k) + (if c.toNat = 46 then 1 else 0)) := Lib.hid (by
          rw [htk]
          unfold Pth.dots
          rw [List.countP_append, List.countP_singleton]
          by_cases h : c.toNat = 46
          · rw [if_pos h, h]; rfl
          · rw [if_neg h, if_neg (by simpa using h)])
        have hgood : Hid (Pth.okChar c = true → ∀ x ∈ s.take (k + 1), Pth.okChar x = true) := Lib.hid (fun h x hx => by
          rw [htk, List.mem_append] at hx
          rcases hx with hx | hx
          · exact Hall.out x hx
          · rw [List.mem_singleton.1 hx]; exact h)
        have hbad : Hid (Pth.okChar c = false → decide (Pth.Name s) = false) := Lib.hid (fun h => decide_eq_false (fun m => by
          have := m.1 c (List.mem_of_getElem? hsc)
          rw [h] at this; cases this))
        have hok : Hid (Pth.okChar c = ((decide (97 ≤ c.toNat) && decide (c.toNat ≤ 122)) || (decide (48 ≤ c.toNat) && decide (c.toNat ≤ 57)) || c.toNat == 45 || c.toNat == 95 || c.toNat == 46)) := Lib.hid rfl
        have hc256 := c.toNat_lt
        have hd9 : ((Pth.dots (s.take k) : Nat) : Int) ≤ 100000 := by omega
        have hpos : wr.iterPos w.heap.size = k := by simp [World.iterPos, hit]
        have hpos2 : Hid ((wr.iterAt w.heap.size xs (k + wd)).iterPos w.heap.size = k + wd) := Lib.hid (by have := hit2.out; simp [World.iterPos, this])
        have Hpos := Lib.hid hpos
        have hge : ((k : Int) == (xs.size : Int)) = false := by rw [beq_eq_false_iff_ne]; omega
        have hkx : (k : Int) ≤ 100000 := by omega
        clear hc hsc htk he hl hdk e1 e2 hit hpos
        generalize wr.iterAt w.heap.size xs (k + wd) = wi at *
        generalize c.toNat = cn at *
        generalize Pth.dots (s.take k) = dk at *
        rcases good_cases r with h | h | h | h | h | h | h | h | h | h
        all_goals
          first | (have e46 : ((r : Int) == 46) = true := by rw [beq_iff_eq]; omega) | (have e46 : ((r : Int) == 46) = false := by rw [beq_eq_false_iff_ne]; omega)
          first | (have d97 : decide ((97 : Int) ≤ (r : Int)) = true := decide_eq_true (by omega)) | (have d97 : decide ((97 : Int) ≤ (r : Int)) = false := decide_eq_false (by omega))
          first | (have d122 : decide ((r : Int) ≤ 122) = true := decide_eq_true (by omega)) | (have d122 : decide ((r : Int) ≤ 122) = false := decide_eq_false (by omega))
          first | (have d48 : decide ((48 : Int) ≤ (r : Int)) = true := decide_eq_true (by omega)) | (have d48 : decide ((48 : Int) ≤ (r : Int)) = false := decide_eq_false (by omega))
          first | (have d57 : decide ((r : Int) ≤ 57) = true := decide_eq_true (by omega)) | (have d57 : decide ((r : Int) ≤ 57) = false := decide_eq_false (by omega))
          first | (have e45 : ((r : Int) == 45) = true := by rw [beq_iff_eq]; omega) | (have e45 : ((r : Int) == 45) = false := by rw [beq_eq_false_iff_ne]; omega)
          first | (have e95 : ((r : Int) == 95) = true := by rw [beq_iff_eq]; omega) | (have e95 : ((r : Int) == 95) = false := by rw [beq_eq_false_iff_ne]; omega)
          first
            | (have hT : Hid (Pth.okChar c = true ∧ wd = 1 ∧ r = cn) := Lib.hid (by
                 have := hlow (by omega)
                 refine ⟨?_, this.2, this.1⟩
                 rw [hok.out]; simp; omega))
            | (have hF : Hid (Pth.okChar c = false) := Lib.hid (by
                 rw [hok.out]
                 by_cases h8 : r < 128
                 · have := hlow h8; simp; omega
                 · have := hhigh (by omega); simp; omega))
          have HH := Lib.hid h
          have Hr := Lib.hid hr
          clear h hlow hhigh hr hw1
          go_wp2_with fail
          first
            | (try rw [Exit.noGoto_ret]
               go_ret
               exact ⟨by rw [hbad.out hF.out]; rfl, hbel2.out⟩)
            | (refine ⟨⟨k + 1, by omega, rfl, ?_, hgood.out hT.out.1, by have := hit2.out; rw [hT.out.2.1] at this; exact this, hbel2.out⟩, ?_⟩
               · rw [hdn.out]
                 first
                   | (rw [if_pos (by have := HH.out; have := hT.out; omega)]; rfl)
                   | (rw [if_neg (by have := HH.out; have := hT.out; omega)]; rfl)
               · rw [hpos2.out, Hpos.out, hT.out.2.1]; omega)
      · have hks : s.length = k := by omega
        have hnx : ∀ ty, (Instr.next (.pointer (some ⟨w.heap.size, 0, none⟩)) true ty).run Try.prog wr = .ok (.tuple #[.bool false]) wr := fun ty => Lib.run_next_end_at wr w.heap.size xs k ty hit (by have := Ls.out; omega)
        have htk : s.take k = s := by rw [← hks]; exact List.take_length
        rw [htk] at Hall hdk
        have hge : ((k : Int) == (xs.size : Int)) = true := by rw [beq_iff_eq]; have := Ls.out; omega
        have hfin : Hid (decide (Pth.Name s) = decide (((Pth.dots s : Nat) : Int) < (k : Int))) := Lib.hid (by
          rw [decide_eq_decide]
          unfold Pth.Name
          constructor
          · rintro ⟨-, -, -, h⟩; omega
          · intro h; exact ⟨Hall.out, by omega, h12, by omega⟩)
        rw [htk]
        clear hit hks htk hlt hdk hk
        generalize ((Pth.dots s : Nat) : Int) = dk at *
        cases hd : decide (dk < (k : Int))
        all_goals
          rw [hd] at hfin
          go_wp2_with fail
          try rw [Exit.noGoto_ret]
          go_ret
          exact ⟨by rw [hfin.out]; rfl, Hbel.out⟩
  · have g1 : decide ((12 : Int) < ((mk s).size : Int)) = true := by rw [ls]; exact decide_eq_true (by omega)
    have hx : Hid (decide (Pth.Name s) = false) := Lib.hid (decide_eq_false (fun h => h12 h.2.2.1))
    clear h12 ls
    generalize mk s = xs at *
    go_enter Try.func134, Try.ntmps134
    go_wp2_with fail
    go_step3
    go_wp2_with fail
    try rw [Exit.noGoto_ret]
    go_ret
    exact ⟨by rw [hx.out]; rfl, Below.refl _ _⟩
open Go.RowKit
def mayF (c1 c2 : Nat) : Value := .func (.func 133) #[] #[.pointer (some ⟨c1, 0, none⟩), .pointer (some ⟨c2, 0, none⟩)]
theorem pth_namer (w : World) :
  Calls Try.prog 124 #[] w fun e w' => e = .returned (mayF w.heap.size (w.heap.size + 1)) ∧ w' = (w.alloc (.cells #[.int .i64 6] 3)).alloc (.cells #[.int .i64 41] 3) := by
 unfold mayF
 go_enter Try.func124, Try.ntmps124
 go_wp2_with fail
 go_ret
 exact ⟨rfl, rfl⟩
theorem next_dec (d : List (List UInt8)) (t : List UInt8) : decide (Pth.Next d t) = (decide (Pth.Name t) && decide ((0 : Int) ≤ (6 - (d.length : Int)) - 1) && decide ((0 : Int) ≤ (41 - (Pth.lens d : Int)) - ((t.length : Int) + 1))) := by
 rw [Bool.eq_iff_iff]
 simp only [Bool.and_eq_true, decide_eq_true_eq, and_assoc]
 exact Iff.rfl
def cnt (d : List (List UInt8)) : Value := .int .i64 (6 - (d.length : Int))
def room (d : List (List UInt8)) : Value := .int .i64 (41 - (Pth.lens d : Int))
theorem pth_may {w : World} {c1 c2 : Nat} {d : List (List UInt8)} (t : List UInt8) (r1 : Row w c1 3 #[cnt d]) (r2 : Row w c2 3 #[room d]) (hne : c1 ≠ c2) (hd : Pth.Fit d) (ht : t.length ≤ 100000) :
  Calls Try.prog 133 #[.string (mk t), .pointer (some ⟨c1, 0, none⟩), .pointer (some ⟨c2, 0, none⟩)] w fun e w' =>
   e = .returned (.bool (decide (Pth.Next d t))) ∧ (Pth.Next d t → Row w' c1 3 #[cnt (d ++ [t])] ∧ Row w' c2 3 #[room (d ++ [t])]) ∧ Kept (fun i => i = c1 ∨ i = c2) w w' := by
 have HN := Lib.hid (fun W => pth_isname t W ht)
 have ht63 : ((mk t).size : Int) ≤ 100000 := by rw [mk_len]; omega
 have hls : ((mk t).size : Int) = (t.length : Int) := by rw [mk_len]
 have hnd := next_dec d t
 by_cases hn : Pth.Name t
 ·rw [decide_eq_true hn] at hnd HN
  have hd6 : (d.length : Int) ≤ 6 := by have := hd.2.1; omega
  have hd0 : (0 : Int) ≤ (d.length : Int) := by omega
  have hr41 : (Pth.lens d : Int) ≤ 41 := by have := hd.2.2; omega
  have hr0 : (0 : Int) ≤ (Pth.lens d : Int) := by omega
  have e1 : cnt (d ++ [t]) = .int .i64 (6 - (d.length : Int) - 1) := by unfold cnt; rw [List.length_append, List.length_singleton]; congr 1; omega
  have e2 : room (d ++ [t]) = .int .i64 (41 - (Pth.lens d : Int) - ((t.length : Int) + 1)) := by unfold room; rw [Pth.lens_append]; simp only [Pth.lens]; congr 1; omega
  rw [e1, e2]
  have r1' := r1
  have r2' := r2
  unfold cnt at r1'
  unfold room at r2'
  have q1 : w.cell? ⟨c1, 0, none⟩ = some (.int .i64 (6 - (d.length : Int))) := r1'.at 0
  have q2 : w.cell? ⟨c2, 0, none⟩ = some (.int .i64 (41 - (Pth.lens d : Int))) := r2'.at 0
  have l1 := r1.inHeap
  have l2 := r2.inHeap
  have R1 := Lib.hid r1'
  have R2 := Lib.hid r2'
  clear e1 e2 hd hn r1 r2 r1' r2'
  have hl0 : (0 : Int) ≤ (t.length : Int) := by omega
  have hl9 : (t.length : Int) ≤ 100000 := by omega
  rw [hls] at ht63
  have Hnd := Lib.hid hnd
  have Hne := Lib.hid hne
  clear hnd
  generalize hx : mk t = x at *
  generalize (d.length : Int) = n at *
  generalize (Pth.lens d : Int) = r at *
  generalize (t.length : Int) = tl at *
  generalize decide (Pth.Next d t) = R at *
  go_enter Try.func133, Try.ntmps133
  go_wp2_with fail
  refine (HN.out _).mono ?_
  rintro e w1 ⟨rfl, hb1⟩
  have s1 := (R1.out.below hb1 l1)
  have s2 := (R2.out.below hb1 l2)
  have p1 : w1.cell? ⟨c1, 0, none⟩ = some (.int .i64 (6 - n)) := s1.at 0
  have f1 := s1.free 0
  have t1 : Row (w1.setCell ⟨c1, 0, none⟩ (.int .i64 (6 - n - 1))) c1 3 #[.int .i64 (6 - n - 1)] := by simpa using s1.stored 0 (.int .i64 (6 - n - 1))
  have t2 := s2.storedElsewhere (p := ⟨c1, 0, none⟩) (by exact Hne.out) (.int .i64 (6 - n - 1))
  have p2 : (w1.setCell ⟨c1, 0, none⟩ (.int .i64 (6 - n - 1))).cell? ⟨c2, 0, none⟩ = some (.int .i64 (41 - r)) := t2.at 0
  have f2 := t2.free 0
  have K1 : Kept (fun i => i = c1 ∨ i = c2) w (w1.setCell ⟨c1, 0, none⟩ (.int .i64 (6 - n - 1))) := (Kept.ofBelow hb1 _).stored (Or.inl (Or.inl rfl)) _
  generalize hw2 : w1.setCell ⟨c1, 0, none⟩ (.int .i64 (6 - n - 1)) = w2 at *
  have u1 := t1.storedElsewhere (p := ⟨c2, 0, none⟩) (by exact fun e => Hne.out e.symm) (.int .i64 (41 - r - (tl + 1)))
  have u2 : Row (w2.setCell ⟨c2, 0, none⟩ (.int .i64 (41 - r - (tl + 1)))) c2 3 #[.int .i64 (41 - r - (tl + 1))] := by simpa using t2.stored 0 (.int .i64 (41 - r - (tl + 1)))
  have K2 : Kept (fun i => i = c1 ∨ i = c2) w (w2.setCell ⟨c2, 0, none⟩ (.int .i64 (41 - r - (tl + 1)))) := K1.stored (Or.inl (Or.inr rfl)) _
  have p3 : (w2.setCell ⟨c2, 0, none⟩ (.int .i64 (41 - r - (tl + 1)))).cell? ⟨c1, 0, none⟩ = some (.int .i64 (6 - n - 1)) := u1.at 0
  have p4 : (w2.setCell ⟨c2, 0, none⟩ (.int .i64 (41 - r - (tl + 1)))).cell? ⟨c2, 0, none⟩ = some (.int .i64 (41 - r - (tl + 1))) := u2.at 0
  generalize hw3 : w2.setCell ⟨c2, 0, none⟩ (.int .i64 (41 - r - (tl + 1))) = w3 at *
  have U1 := Lib.hid u1
  have U2 := Lib.hid u2
  have HK2 := Lib.hid K2
  clear u1 u2 K1 K2 t1 t2 s1 s2
  have gA : decide ((0 : Int) ≤ 6 - n - 1) = decide ((1 : Int) ≤ 6 - n) := by rw [decide_eq_decide]; omega
  have gB : decide ((0 : Int) ≤ 41 - r - (tl + 1)) = decide (tl + 1 ≤ 41 - r) := by rw [decide_eq_decide]; omega
  rw [gA, gB] at Hnd
  clear gA gB
  cases hA : decide ((1 : Int) ≤ 6 - n) <;> cases hB : decide (tl + 1 ≤ 41 - r)
  all_goals
   rw [hA, hB] at Hnd
   go_wp2_with fail
   go_ret
   exact ⟨by rw [Hnd.out]; rfl, fun _ => ⟨U1.out, U2.out⟩, HK2.out⟩
 ·rw [decide_eq_false hn] at hnd HN
  have hx : ¬ Pth.Next d t := fun h => hn h.1
  have Hx := Lib.hid hx
  have Hnd := Lib.hid hnd
  clear hd hn hnd hls hx r1 r2
  generalize mk t = x at *
  go_enter Try.func133, Try.ntmps133
  go_wp2_with (go_at_call 134; refine (HN.out _).mono ?_; rintro e w1 ⟨rfl, hb1⟩)
  go_ret
  exact ⟨by rw [Hnd.out]; rfl, fun h => absurd h Hx.out, Kept.ofBelow hb1 _⟩
end Go.Proofs.Ytmpajhjfnfcdlaa
namespace Go.Proofs
open Go.Shelf
open Go.RowKit Go.Lib in
def Try.lays219_ren : Go.Shelf.Ren := ⟨fun | 219 => 139 | 217 => 150 | 225 => 151 | 224 => 152 | 267 => 153 | 266 => 159 | 314 => 160 | n => n, fun | 9 => 9 | 3 => 3 | 4 => 4 | 5 => 5 | 46 => 166 | 146 => 191 | 51 => 180 | n => n, fun | 1 => 0 | n => n⟩
theorem Try.lays219 : Go.Proofs.Lays.n219 Try.prog Try.lays219_ren := {
 mixed := by kernel_rfl
 f217 := Try.func150.trans (congrArg some (by kernel_rfl))
 f219 := Try.func139.trans (congrArg some (by kernel_rfl))
 f224 := Try.func152.trans (congrArg some (by kernel_rfl))
 f225 := Try.func151.trans (congrArg some (by kernel_rfl))
 f266 := Try.func159.trans (congrArg some (by kernel_rfl))
 f267 := Try.func153.trans (congrArg some (by kernel_rfl))
 f314 := Try.func160.trans (congrArg some (by kernel_rfl))
 t3 := Try.underlying3
 a3 := Try.isAgg3
 z3 := Try.sizeOf3
 v3 := Try.zeroValue3
 t4 := Try.underlying4
 a4 := Try.isAgg4
 z4 := Try.sizeOf4
 v4 := Try.zeroValue4
 t5 := Try.underlying5
 a5 := Try.isAgg5
 z5 := Try.sizeOf5
 v5 := Try.zeroValue5
 t9 := Try.underlying9
 a9 := Try.isAgg9
 z9 := Try.sizeOf9
 v9 := Try.zeroValue9
 t46 := Try.underlying166
 a46 := Try.isAgg166
 z46 := Try.sizeOf166
 v46 := Try.zeroValue166
 t51 := Try.underlying180
 a51 := Try.isAgg180
 z51 := Try.sizeOf180
 v51 := Try.zeroValue180
 t146 := Try.underlying191
 a146 := Try.isAgg191
 z146 := Try.sizeOf191
 v146 := Try.zeroValue191
 g1 := by kernel_rfl }
open Go.RowKit Go.Lib in
theorem Try.stringslite_Index_one (s : ByteArray) (c : UInt8) (w : World) :
  Calls Try.prog 139 #[.string s, .string ⟨#[c]⟩] w fun e w' => e = .returned (.int .i64 (Lib.indexByte s.data.toList c)) ∧ w' = w := Any.stringslite_Index_one Try.lays219 s c w
end Go.Proofs
