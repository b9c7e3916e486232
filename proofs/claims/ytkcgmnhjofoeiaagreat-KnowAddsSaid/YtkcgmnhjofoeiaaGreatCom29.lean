import Derived.Test.YtkcgmnhjofoeiaaGreatCom23
import Derived.Test.YtkcgmnhjofoeiaaGreatCom27
import Derived.Test.YtkcgmnhjofoeiaaGreatCom28
import Derived.Test.YtkcgmnhjofoeiaaGreatCom11
import Derived.Test.YtkcgmnhjofoeiaaGreatCom26
import Derived.Test.YtkcgmnhjofoeiaaGreatCom20
import Derived.Test.YtkcgmnhjofoeiaaGreatCom9
set_option maxRecDepth 100000
set_option linter.all false
set_option maxHeartbeats 12800000
namespace Go.Proofs.YtkcgmnhjofoeiaaGreat
open Go.RowKit
namespace Know
structure Cut (k : K) : Prop where
 fr : k.frags.length ≤ 6
 it : k.items.length ≤ 12
 fl : ∀ x ∈ k.frags, x.f.length ≤ 24
 sane : SaneK k
 len : ∀ x ∈ k.frags, x.v.length = 65
 no : ∀ x ∈ k.frags, x.no.length ≤ 12
 lenI : ∀ i ∈ k.items, i.v.length = 65
 bd : ∀ i ∈ k.items, ∀ n ∈ i.v, Ver.I64 n
 bdI : ∀ i ∈ k.items, Ver.Bd i.item
structure Small (k : K) : Prop where
 fr : k.frags.length ≤ 18
 it : k.items.length ≤ 36
 fl : ∀ x ∈ k.frags, x.f.length ≤ 24
 sane : SaneK k
 len : ∀ x ∈ k.frags, x.v.length = 65
 no : ∀ x ∈ k.frags, x.no.length ≤ 13
 lenI : ∀ i ∈ k.items, i.v.length = 65
 bd : ∀ i ∈ k.items, ∀ n ∈ i.v, Ver.I64 n
 bdI : ∀ i ∈ k.items, Ver.Bd i.item
theorem sum_bound {α : Type} (f : α → Nat) (b : Nat) : ∀ l : List α, (∀ x ∈ l, f x ≤ b) → (l.map f).sum ≤ l.length * b
 | [], _ => by simp
 | x :: l, h => by
  have h1 := h x (List.mem_cons_self ..)
  have h2 := sum_bound f b l (fun y hy => h y (List.mem_cons_of_mem _ hy))
  rw [List.map_cons, List.sum_cons, List.length_cons, Nat.succ_mul]
  omega
theorem Small.ok {k : K} (h : Small k) : Ok k where
 fr := by have := h.fr; omega
 it := by have := h.it; omega
 cl := by
  have h1 := sum_bound (fun x : Fr => x.f.length) 24 k.frags h.fl
  have h2 := h.fr
  have h3 : k.frags.length * 24 ≤ 18 * 24 := Nat.mul_le_mul_right _ h2
  show many k.frags ≤ _
  unfold many
  omega
 wt := by
  have h1 := sum_bound (fun x : Fr => (Flt.prefixes x.f).length) 24 k.frags (fun x hx => Nat.le_trans (Flt.prefixes_len _) (h.fl x hx))
  have h2 := h.fr
  have h3 : k.frags.length * 24 ≤ 18 * 24 := Nat.mul_le_mul_right _ h2
  show wt k.frags ≤ _
  unfold wt
  omega
 sane := h.sane
 len := h.len
 no := fun x hx => Nat.le_trans (h.no x hx) (by decide)
 lenI := h.lenI
 bd := h.bd
 bdI := h.bdI
theorem Cut.small {k : K} (h : Cut k) : Small k := ⟨Nat.le_trans h.fr (by decide), Nat.le_trans h.it (by decide), h.fl, h.sane, h.len, fun x hx => Nat.le_trans (h.no x hx) (by decide), h.lenI, h.bd, h.bdI⟩
theorem Cut.ok {k : K} (h : Cut k) : Ok k := h.small.ok
theorem Cut.union {k l : K} (h : Cut k) (g : Cut l) : Small (union k l) where
 fr := by have h1 := h.fr; have h2 := g.fr; show (k.frags ++ l.frags).length ≤ 18; rw [List.length_append]; omega
 it := by have h1 := h.it; have h2 := g.it; show (k.items ++ l.items).length ≤ 36; rw [List.length_append]; omega
 fl := fun x hx => (List.mem_append.1 hx).elim (h.fl x) (g.fl x)
 sane := fun x hx => (List.mem_append.1 hx).elim (h.sane x) (g.sane x)
 len := fun x hx => (List.mem_append.1 hx).elim (h.len x) (g.len x)
 no := fun x hx => (List.mem_append.1 hx).elim (fun q => Nat.le_trans (h.no x q) (by decide)) (fun q => Nat.le_trans (g.no x q) (by decide))
 lenI := fun x hx => (List.mem_append.1 hx).elim (h.lenI x) (g.lenI x)
 bd := fun x hx => (List.mem_append.1 hx).elim (h.bd x) (g.bd x)
 bdI := fun x hx => (List.mem_append.1 hx).elim (h.bdI x) (g.bdI x)
theorem ofl_bd1 {v : Ver.V} (hv : Ver.Bd v) : ∀ n ∈ Vec.ofl [v], Ver.I64 n := by
 intro n hn
 have e : Vec.ofl [v] = Vec.up (List.replicate 65 0) v := rfl
 have h0 : ∀ n ∈ List.replicate 65 (0 : Int), Ver.I64 n := fun n hn => by rw [List.eq_of_mem_replicate hn]; unfold Ver.I64; omega
 rw [e] at hn
 unfold Vec.up at hn
 split at hn
 ·rcases List.mem_or_eq_of_mem_set hn with h | h
  ·exact h0 n h
  ·rw [h]; exact hv.2
 ·exact h0 n hn
theorem item_cut {item v : Ver.V} (hi : Ver.Bd item) (hv : Ver.Bd v) : Cut ⟨[], [⟨item, Vec.ofl [v]⟩]⟩ where
 fr := by simp
 it := by simp
 fl := fun x hx => by cases hx
 sane := fun x hx => by cases hx
 len := fun x hx => by cases hx
 no := fun x hx => by cases hx
 lenI := fun i hx => by rw [List.mem_singleton.1 hx]; exact (Vec.ofl_plain _).1
 bd := fun i hx => by rw [List.mem_singleton.1 hx]; exact ofl_bd1 hv
 bdI := fun i hx => by rw [List.mem_singleton.1 hx]; exact hi
theorem frag_cut {x : Fr} (hf : x.f.length ≤ 24) (hs : Sane x.f) (hv : x.v.length = 65) (hn : x.no.length ≤ 12) : Cut ⟨[x], []⟩ where
 fr := by simp
 it := by simp
 fl := fun y hy => by rw [List.mem_singleton.1 hy]; exact hf
 sane := fun y hy => by rw [List.mem_singleton.1 hy]; exact hs
 len := fun y hy => by rw [List.mem_singleton.1 hy]; exact hv
 no := fun y hy => by rw [List.mem_singleton.1 hy]; exact hn
 lenI := fun i hx => by cases hx
 bd := fun i hx => by cases hx
 bdI := fun i hx => by cases hx
theorem Cut.except {k : K} (h : Cut k) (item : Ver.V) : Small (except k item) where
 fr := by show (k.frags.map _).length ≤ 18; rw [List.length_map]; exact Nat.le_trans h.fr (by decide)
 it := Nat.le_trans (List.length_filter_le _ _) (Nat.le_trans h.it (by decide))
 fl := fun x hx => by obtain ⟨y, hy, rfl⟩ := List.mem_map.1 hx; exact h.fl y hy
 sane := except_sane h.sane item
 len := fun x hx => by obtain ⟨y, hy, rfl⟩ := List.mem_map.1 hx; exact h.len y hy
 no := fun x hx => by
  obtain ⟨y, hy, rfl⟩ := List.mem_map.1 hx
  have h1 := Iset.put_len y.no item
  have h2 := h.no y hy
  show (Iset.put y.no item).length ≤ 13
  omega
 lenI := fun i hi => h.lenI i (List.mem_filter.1 hi).1
 bd := fun i hi => h.bd i (List.mem_filter.1 hi).1
 bdI := fun i hi => h.bdI i (List.mem_filter.1 hi).1
theorem Cut.pre {k : K} (h : Cut k) {g : List Flt.Cl} (hg : g.length ≤ 24) : ∀ x ∈ k.frags, (Flt.prefixes x.f).length + (Flt.prefixes g).length ≤ 490 := fun x hx => by
 have h1 := Flt.prefixes_len x.f
 have h2 := h.fl x hx
 have h3 := Flt.prefixes_len g
 omega
theorem cov_ok {f : List Flt.Cl} (h : f.length ≤ 24) (hs : Sane f) : Cov.Ok f := Cov.Ok.of (Nat.le_trans h (by decide)) hs
theorem ends_some {v : List Int} (h : ∃ y, Vec.Has v y) : Vec.ends v ≠ [] := by
 obtain ⟨y, hy⟩ := h
 obtain ⟨z, hz, -⟩ := has_end hy
 intro e
 rw [e] at hz; cases hz
end Know
theorem kn_cut {W : World} {a b : Value} {rs : List RFr} {m : List Know.It} (h : KnIn W a b rs m) : Know.Cut (Know.cutK ⟨rs.map (·.x), m⟩) where
 fr := by show (((rs.map (·.x)).take 6).map Know.cutFr).length ≤ 6; rw [List.length_map, List.length_take]; omega
 it := by show (m.take 12).length ≤ 12; rw [List.length_take]; omega
 fl := fun x hx => by obtain ⟨y, hy, rfl⟩ := List.mem_map.1 hx; exact (Know.saneF_fine y.f).1
 sane := fun x hx => by obtain ⟨y, hy, rfl⟩ := List.mem_map.1 hx; exact (Know.saneF_fine y.f).2
 len := fun x hx => by
  obtain ⟨y, hy, rfl⟩ := List.mem_map.1 hx
  obtain ⟨r, hr, rfl⟩ := List.mem_map.1 (List.mem_of_mem_take hy)
  exact (h.ins r hr).rin.len
 no := fun x hx => by obtain ⟨y, hy, rfl⟩ := List.mem_map.1 hx; show (y.no.take 12).length ≤ 12; rw [List.length_take]; omega
 lenI := fun i hi => (h.inI i (List.mem_of_mem_take hi)).len
 bd := fun i hi => (h.inI i (List.mem_of_mem_take hi)).vb
 bdI := fun i hi => (h.inI i (List.mem_of_mem_take hi)).ib
theorem ok_bd {k : Know.K} (h : Know.Ok k) : ∀ x ∈ k.frags, FrBd x := fun x hx =>
 ⟨Nat.le_trans (Know.ok_cov h hx).1 (by decide), fun c hc => by have := Cov.pre_small (h.sane x hx c hc); omega, Nat.le_trans (h.no x hx) (by decide)⟩
theorem ok_kbd {k : Know.K} (h : Know.Ok k) : KBd k := ⟨Nat.le_trans h.fr (by decide), Nat.le_trans h.it (by decide), Nat.le_trans h.cl (by decide), ok_bd h⟩
theorem frags_apart {l c : List Know.Fr} (hc : ∀ x, x ∈ c ↔ Know.Kept l x) (up : c.Pairwise Know.FLt) (i j : Nat) (x y : Know.Fr) (hij : i ≠ j) (hx : c[i]? = some x) (hy : c[j]? = some y) : ¬ Know.Incl x y ∧ ¬ (x.v = y.v ∧ x.no = y.no) := by
 have hne : x ≠ y := by
  intro e
  subst e
  obtain ⟨hi, ei⟩ := List.getElem?_eq_some_iff.1 hx
  obtain ⟨hj, ej⟩ := List.getElem?_eq_some_iff.1 hy
  have hp := List.pairwise_iff_getElem.1 up
  rcases Nat.lt_or_gt_of_ne hij with h | h
  ·have := hp i j hi hj h
   rw [ei, ej] at this
   exact Know.flt_irrefl _ this
  ·have := hp j i hj hi h
   rw [ei, ej] at this
   exact Know.flt_irrefl _ this
 have kx := (hc x).1 (List.mem_of_getElem? hx)
 have ky := (hc y).1 (List.mem_of_getElem? hy)
 exact ⟨fun h => hne (ky.2 x kx.1 h), fun h => hne (Know.cand_one kx.1 ky.1 h.1 h.2)⟩
theorem form_of {k c : Know.K} (hc : Know.Ok c) (hf : ∀ x, x ∈ c.frags ↔ Know.Kept k.frags x) (hi : ∀ i ∈ c.items, Know.KeptI k.items i) (up : c.frags.Pairwise Know.FLt) (upI : c.items.Pairwise Know.ILt) : KForm c where
 fr := Nat.le_trans hc.fr (by decide)
 it := Nat.le_trans hc.it (by decide)
 form := fun x hx => by
  have h := ((hf x).1 hx).1
  exact ⟨⟨h.1, h.2.2.2.1, h.2.1, Know.ends_some h.2.2.2.2.1, h.2.2.1⟩, ok_bd hc x hx⟩
 apart := frags_apart hf up
 its := fun i hx => by
  have h := hi i hx
  exact ⟨h.1, Know.ends_some h.2.1⟩
 up := fun n x y hx hy => by
  obtain ⟨h1, e1⟩ := List.getElem?_eq_some_iff.1 hx
  obtain ⟨h2, e2⟩ := List.getElem?_eq_some_iff.1 hy
  have := List.pairwise_iff_getElem.1 upI n (n + 1) h1 h2 (Nat.lt_succ_self _)
  rw [e1, e2] at this
  exact this
theorem canon_form {k c : Know.K} (hk : Know.Ok k) (h : Know.Canon k c) : KForm c := form_of (Know.canon_ok hk h) h.frags (fun i hi => (h.items i).1 hi) h.upF h.upI
open Go.RowKit Go.Sort
theorem fr_built2 (A : Option Addr) (n c : Nat) (f : List Flt.Cl) {v : List Int} (hv : v.length = 65) : Tryz.prog.built 31 [(0, .slice A n c), (1, .agg (vecL v).toArray)] = some (rfV ⟨.slice A n c, .slice none 0 0, ⟨f, v, []⟩⟩).toArray := by
 rw [fr_places]
 have hs : (rfV frZ).toArray.size = 67 := frZ_size
 have hvl : (vecL v).length = 65 := by rw [vecL_len, hv]
 have e1 : (Value.slice A n c).cells = #[.slice A n c] := rfl
 have e2 : (Value.agg (vecL v).toArray).cells = (vecL v).toArray := rfl
 obtain ⟨p1, p2⟩ := Great.foldl_set 0 [.slice A n c] 0 (rfV frZ).toArray
 generalize hc1 : (([.slice A n c] : List Value).zipIdx 0).foldl (fun cs (x : Value × Nat) => cs.setIfInBounds (0 + x.2) x.1) (rfV frZ).toArray = c1 at *
 obtain ⟨q1, q2⟩ := Great.foldl_set 1 (vecL v) 0 c1
 have hfill : Instr.fill (#[(0, 1), (1, 65), (66, 1)][·]?) (rfV frZ).toArray [(0, .slice A n c), (1, .agg (vecL v).toArray)] = some (((vecL v).zipIdx 0).foldl (fun cs (x : Value × Nat) => cs.setIfInBounds (1 + x.2) x.1) c1) := by
  have s1 : ((#[Value.slice A n c] : Array Value).zipIdx).foldl (fun cs (x : Value × Nat) => cs.setIfInBounds (0 + x.2) x.1) (rfV frZ).toArray = c1 := by
   rw [← hc1]; simp
  have s2 : ((vecL v).toArray.zipIdx).foldl (fun cs (x : Value × Nat) => cs.setIfInBounds (1 + x.2) x.1) c1 = ((vecL v).zipIdx 0).foldl (fun cs (x : Value × Nat) => cs.setIfInBounds (1 + x.2) x.1) c1 := by
   rw [Array.zipIdx_toArray, List.foldl_toArray']
   simp
  unfold Instr.fill
  simp only [List.getElem?_toArray, List.getElem?_cons_zero, e1]
  rw [s1]
  rw [if_neg (by rw [hs]; simp)]
  unfold Instr.fill
  simp only [List.getElem?_toArray, List.getElem?_cons_succ, List.getElem?_cons_zero, e2, List.size_toArray]
  rw [s2]
  rw [if_neg (by rw [p1, hs, hvl]; simp)]
  unfold Instr.fill
  rfl
 rw [hfill]
 congr 1
 apply Array.ext_getElem?
 intro k
 have hr : (rfV ⟨.slice A n c, .slice none 0 0, ⟨f, v, []⟩⟩).toArray[k]? = (Value.slice A n c :: (vecL v ++ [Value.slice none 0 0]))[k]? := by rw [List.getElem?_toArray]; rfl
 rw [q2 k, p1, hs, hr]
 rcases k with _ | k
 ·rw [if_neg (by omega), p2 0, hs, if_pos (by simp)]
  rfl
 ·rw [List.getElem?_cons_succ]
  by_cases h : k < 65
  ·rw [if_pos (by rw [hvl]; omega), List.getElem?_append_left (by rw [hvl]; omega)]
   rw [show k + 1 - (1 + 0) = k by omega]
  ·rw [List.getElem?_append_right (by omega), hvl, if_neg (by omega), p2 (k + 1), hs, if_neg (by simp), List.getElem?_toArray]
   have e3 : (rfV frZ)[k + 1]? = (vecL frZ.x.v ++ [frZ.nv])[k]? := by unfold rfV; rw [List.getElem?_cons_succ]
   have hz : (vecL frZ.x.v).length = 65 := by rw [vecL_len]; exact Vec.zeros_len
   rw [e3, List.getElem?_append_right (by omega), hz]
   rfl
theorem wpList_frbuild2 {ops : Array Oper} {rest : List Oper} {o : Oper} {a : Act} {w : World} {Q : Exit → Act → World → Prop} (hg : o.guard = none) (x y : Operand) (ho : o.op = .build 31 #[(0, x), (1, y)]) {A : Option Addr} {n c : Nat} (f : List Flt.Cl) {v : List Int} (hx : a.eval x = .slice A n c) (hy : a.eval y = .agg (vecL v).toArray) (hv : v.length = 65)
  (h : wpList Tryz.prog ops Q rest (a.put o.dst (.agg (rfV ⟨.slice A n c, .slice none 0 0, ⟨f, v, []⟩⟩).toArray)) w) : wpList Tryz.prog ops Q (o :: rest) a w := by
 have hb := fr_built2 A n c f hv
 have e : (#[(0, x), (1, y)].map fun (i, x) => (i, a.eval x)).toList = [(0, .slice A n c), (1, .agg (vecL v).toArray)] := by simp [hx, hy]
 refine wpList_build hg 31 _ ho (by rw [e, hb]; rfl) ?_
 rw [e, hb]
 exact h
namespace Know
def awV : List Int := Vec.ofl [⟨1, 5⟩]
def awX : Fr := ⟨Flt.whole, awV, []⟩
def awK : K := union ⟨[], []⟩ ⟨[awX], []⟩
theorem whole_right : ∀ c ∈ Flt.whole, Flt.Right c := by decide
theorem awX_cut : Cut ⟨[awX], []⟩ := frag_cut (by decide) whole_right (Vec.ofl_plain _).1 (by decide)
theorem none_cut : Cut ⟨[], []⟩ := ⟨by decide, by decide, fun x hx => (by cases hx), fun x hx => (by cases hx), fun x hx => (by cases hx), fun x hx => (by cases hx), fun x hx => (by cases hx), fun x hx => (by cases hx), fun x hx => (by cases hx)⟩
theorem awK_ok : Ok awK := (Cut.union none_cut awX_cut).ok
theorem whole_ok : Cov.Ok Flt.whole := cov_ok (by decide) whole_right
theorem aw_has (i : Ver.V) : Contains awK i ⟨1, 3⟩ Flt.whole := by
 refine Or.inr ⟨⟨awX, List.mem_singleton.2 rfl, by decide, by decide +kernel, fun h => (by cases h)⟩, ?_⟩
 rw [whole_says]
 exact fun p n hn => ⟨awX, List.mem_singleton.2 rfl, ⟨by decide, by decide +kernel, fun h => (by cases h)⟩, hn⟩
theorem awK_sane : SaneK awK := awK_ok.sane
theorem aw_except {c : K} (h : Canon awK c) : Ok (except c ⟨7, 7⟩) := by
 have oc := canon_ok awK_ok h
 have hn := canon_no h (N := 0) (fun x hx => by rw [List.mem_singleton.1 (show x ∈ [awX] from hx)]; exact Nat.le_refl _)
 refine ⟨?_, Nat.le_trans (List.length_filter_le _ _) oc.it, ?_, ?_, except_sane oc.sane _, ?_, ?_, fun i hi => oc.lenI i (List.mem_filter.1 hi).1, fun i hi => oc.bd i (List.mem_filter.1 hi).1, fun i hi => oc.bdI i (List.mem_filter.1 hi).1⟩
 ·show (c.frags.map _).length ≤ 1000
  rw [List.length_map]; exact oc.fr
 ·have : many (except c ⟨7, 7⟩).frags = many c.frags := by
   show many (c.frags.map _) = _
   unfold many
   rw [List.map_map]; rfl
  rw [this]; exact oc.cl
 ·have : wt (except c ⟨7, 7⟩).frags = wt c.frags := by
   show wt (c.frags.map _) = _
   unfold wt
   rw [List.map_map]; rfl
  rw [this]; exact oc.wt
 ·intro x hx
  obtain ⟨y, hy, rfl⟩ := List.mem_map.1 hx
  exact oc.len y hy
 ·intro x hx
  obtain ⟨y, hy, rfl⟩ := List.mem_map.1 hx
  have h1 := Iset.put_len y.no ⟨7, 7⟩
  have h2 := hn y hy
  show (Iset.put y.no ⟨7, 7⟩).length ≤ 1000
  omega
theorem ok_more {k : K} (h : Ok k) (hi : k.items.length ≤ 999) {item v : Ver.V} (bi : Ver.Bd item) (bv : Ver.Bd v) : Ok (union k ⟨[], [⟨item, Vec.ofl [v]⟩]⟩) where
 fr := by show (k.frags ++ []).length ≤ 1000; rw [List.append_nil]; exact h.fr
 it := by show (k.items ++ [_]).length ≤ 1000; rw [List.length_append]; simp; omega
 cl := by show many (k.frags ++ []) ≤ _; rw [List.append_nil]; exact h.cl
 wt := by show wt (k.frags ++ []) ≤ _; rw [List.append_nil]; exact h.wt
 sane := fun x hx => (List.mem_append.1 hx).elim (h.sane x) (fun q => by cases q)
 len := fun x hx => (List.mem_append.1 hx).elim (h.len x) (fun q => by cases q)
 no := fun x hx => (List.mem_append.1 hx).elim (h.no x) (fun q => by cases q)
 lenI := fun x hx => (List.mem_append.1 hx).elim (h.lenI x) ((item_cut bi bv).lenI x)
 bd := fun x hx => (List.mem_append.1 hx).elim (h.bd x) ((item_cut bi bv).bd x)
 bdI := fun x hx => (List.mem_append.1 hx).elim (h.bdI x) ((item_cut bi bv).bdI x)
theorem aw_items {c e : K} (h : Canon awK c) (g : Canon (except c ⟨7, 7⟩) e) : e.items.length ≤ 999 := by
 have h1 := canon_it g
 have h2 : (except c ⟨7, 7⟩).items.length ≤ c.items.length := List.length_filter_le _ _
 have h3 := canon_it h
 have h4 : awK.items.length = 0 := rfl
 omega
theorem aw_one {c : K} (h : Canon awK c) : Contains c ⟨7, 7⟩ ⟨1, 3⟩ Flt.whole := (canon_contains awK_sane h _ _ _).2 (aw_has _)
theorem aw_two {c e : K} (h : Canon awK c) (g : Canon (except c ⟨7, 7⟩) e) : ¬ Contains e ⟨7, 7⟩ ⟨1, 3⟩ Flt.whole := fun q => except_none c ⟨7, 7⟩ _ _ ((canon_contains (aw_except h).sane g _ _ _).1 q)
theorem aw_three {c e : K} (h : Canon awK c) (g : Canon (except c ⟨7, 7⟩) e) : Contains e ⟨1, 3⟩ ⟨1, 3⟩ Flt.whole :=
 (canon_contains (aw_except h).sane g _ _ _).2 ((except_other (canon_ok awK_ok h).sane (by decide) _ _).2 ((canon_contains awK_sane h _ _ _).2 (aw_has _)))
theorem aw_four {e p : K} (he : SaneK e) (g : Canon (union e ⟨[], [⟨⟨7, 7⟩, Vec.ofl [⟨1, 3⟩]⟩]⟩) p) (f : List Flt.Cl) : Contains p ⟨7, 7⟩ ⟨1, 3⟩ f :=
 (canon_contains (fun x hx => (List.mem_append.1 hx).elim (he x) (fun q => by cases q)) g _ _ _).2 (Or.inl ⟨⟨⟨7, 7⟩, Vec.ofl [⟨1, 3⟩]⟩, List.mem_append_right _ (List.mem_singleton.2 rfl), rfl, by decide +kernel⟩)
end Know
theorem know_awake (K : KnowOk) (V : VecOk) (Z : FilterOk) (w : World) : Calls Tryz.prog 11 #[] w fun e w' => e = .returned (.bool true) ∧ Below w.heap.size w w' := by
 have hz := knZero
 have AL := Lib.hid (fun (W : World) => Z.all W)
 have OF := Lib.hid (fun (W : World) => V.ofl (ver_made1 W 33 ⟨1, 5⟩) (by decide) (fun x hx => by rw [List.mem_singleton.1 hx]; decide))
 have GR := Lib.hid (fun (W : World) (r : RFr) (hr : r.In W AnyB) (hx : r.x = Know.awX) => K.grant (w := W) (F := AnyB) (k := ⟨[], []⟩) (v := .agg #[.slice none 0 0, .slice none 0 0]) ⟨_, _, rfl, Frs.empty _ _ _ _, Its.empty _ _ _ _⟩ hr (by rw [hx]; exact Know.awK_ok))
 have EX := Lib.hid (fun (W : World) (c : Know.K) (v : Value) (hc : Know.Canon Know.awK c) (hv : Kns W AnyB v c) => K.except ⟨7, 7⟩ hv (Know.canon_ok Know.awK_ok hc) (Know.aw_except hc))
 have CO := Lib.hid (fun (W : World) (G : Nat → Prop) (k : Know.K) (v u : Value) (i x : Ver.V) (b : Bool) (ok : Know.Ok k) (hx : Ver.Bd x) (hb : b = true ↔ Know.Contains k i x Flt.whole) (hv : Kns W AnyB v k) (hu : Cls W G u Flt.whole) => ((K.contains i x hv hu ok Know.whole_ok hx).mono fun e w' (h : (∃ b' : Bool, e = .returned (.bool b') ∧ (b' = true ↔ Know.Contains k i x Flt.whole)) ∧ Below W.heap.size W w') => (⟨by
  obtain ⟨⟨b', e1, e2⟩, -⟩ := h
  have : b' = b := by rw [Bool.eq_iff_iff, e2, hb]
  rw [e1, this], h.2⟩ : e = .returned (.bool b) ∧ Below W.heap.size W w')))
 have AD := Lib.hid (fun (W : World) (c d : Know.K) (v : Value) (hc : Know.Canon Know.awK c) (hd : Know.Canon (Know.except c ⟨7, 7⟩) d) (hv : Kns W AnyB v d) => K.add ⟨7, 7⟩ ⟨1, 3⟩ hv (Know.ok_more (Know.canon_ok (Know.aw_except hc) hd) (Know.aw_items hc hd) (by decide) (by decide)) (by decide))
 have B2 : Below w.heap.size w ((w.alloc (.cells #[.int .i64 7, .int .i64 7] 33)).alloc (.cells #[.int .i64 1, .int .i64 3] 33)) := ((Below.refl _ _).alloc (Nat.le_refl _) _).alloc (by simp) _
 have x0 : Row ((w.alloc (.cells #[.int .i64 7, .int .i64 7] 33)).alloc (.cells #[.int .i64 1, .int .i64 3] 33)) w.heap.size 33 #[.int .i64 7, .int .i64 7] := (Row.made w _ _).behindNew _
 have x1 : Row ((w.alloc (.cells #[.int .i64 7, .int .i64 7] 33)).alloc (.cells #[.int .i64 1, .int .i64 3] 33)) (w.heap.size + 1) 33 #[.int .i64 1, .int .i64 3] := by
  have := Row.made (w.alloc (.cells #[.int .i64 7, .int .i64 7] 33)) 33 #[.int .i64 1, .int .i64 3]
  rwa [World.size_alloc] at this
 have X0 := Lib.hid x0
 have X1 := Lib.hid x1
 have HB2 := Lib.hid B2
 clear x0 x1 B2
 go_enter Tryz.func11, Tryz.ntmps11
 go_wp2_with fail
 generalize (w.alloc (.cells #[.int .i64 7, .int .i64 7] 33)).alloc (.cells #[.int .i64 1, .int .i64 3] 33) = W2 at *
 refine (AL.out _).mono ?_
 rintro e w3 ⟨v3, rfl, h3, b3⟩
 obtain ⟨A3, c3, e3, -⟩ := h3.parts
 subst e3
 have H3 := Lib.hid h3
 have HB3 := Lib.hid b3
 clear h3 b3
 go_wp2_with fail
 refine (OF.out w3).mono ?_
 rintro e w4 ⟨rfl, h4⟩
 have hb4 : Below w3.heap.size w3 w4 := ((Below.refl w3.heap.size w3).alloc (Nat.le_refl _) (.cells (verV (⟨1, 5⟩ : Ver.V)).toArray 33)).trans (h4.below.mono (by rw [World.size_alloc]; exact Nat.le_succ _))
 have HB4 := Lib.hid (HB3.out.trans (hb4.mono HB3.out.size))
 have GR4 := Lib.hid (GR.out w4 ⟨.slice A3 Flt.whole.length c3, .slice none 0 0, Know.awX⟩ ⟨(Rws.below H3.out hb4).mono (fun _ _ => trivial), Rws.none _ _ _, (Vec.ofl_plain _).1⟩ rfl)
 clear h4 hb4 GR OF
 go_wp2_with (refine wpList_frbuild2 rfl _ _ (by rfl) Flt.whole (v := Know.awV) (by rfl) (by rfl) (Vec.ofl_plain _).1 ?_)
 refine (GR4.out).mono ?_
 rintro e w5 ⟨v5, c, rfl, hc, hk5, b5⟩
 obtain ⟨p1, p2, rfl, hk5a, hk5b⟩ := hk5
 obtain ⟨P1, q1, rfl, -⟩ := hk5a.parts
 obtain ⟨P2, q2, rfl, -⟩ := hk5b.1.parts
 have HB5 := Lib.hid (HB4.out.trans (b5.mono HB4.out.size))
 have hA5 : Below w5.heap.size w5 (w5.alloc (.cells #[.slice P1 c.frags.length q1, .slice P2 c.items.length q2] 25)) := (Below.refl _ _).alloc (Nat.le_refl _) _
 have r5 := Row.made w5 25 #[.slice P1 c.frags.length q1, .slice P2 c.items.length q2]
 have HK := Lib.hid (fun (W : World) (h : Below (w5.alloc (.cells #[.slice P1 c.frags.length q1, .slice P2 c.items.length q2] 25)).heap.size (w5.alloc (.cells #[.slice P1 c.frags.length q1, .slice P2 c.items.length q2] 25)) W) => ((⟨_, _, rfl, (hk5a.below hA5).below h, (hk5b.below hA5).below h⟩ : Kns W AnyB (.agg #[.slice P1 c.frags.length q1, .slice P2 c.items.length q2]) c)))
 have HB5b := Lib.hid (HB5.out.trans (hA5.mono HB5.out.size))
 have R5 := Lib.hid r5
 have HC := Lib.hid hc
 have EX5 := Lib.hid (EX.out _ c _ hc (HK.out _ (Below.refl _ _)))
 have a0 := (X0.out.below HB5b.out X0.out.inHeap).at 0
 have a1 := (X0.out.below HB5b.out X0.out.inHeap).at 1
 have k0 := r5.at 0
 have k1 := r5.at 1
 simp only [List.getElem?_toArray, List.getElem?_cons_zero, List.getElem?_cons_succ] at a0 a1 k0 k1
 clear b5 hk5a hk5b hA5 r5 hc EX GR4
 go_wp2_with fail
 generalize w5.alloc (.cells #[.slice P1 c.frags.length q1, .slice P2 c.items.length q2] 25) = W5 at *
 refine (EX5.out).mono ?_
 rintro e w6 ⟨v6, d, rfl, hd, hk6, b6⟩
 obtain ⟨p3, p4, rfl, hk6a, hk6b⟩ := hk6
 obtain ⟨P3, q3, rfl, -⟩ := hk6a.parts
 obtain ⟨P4, q4, rfl, -⟩ := hk6b.1.parts
 have hA6 : Below w6.heap.size w6 (w6.alloc (.cells #[.slice P3 d.frags.length q3, .slice P4 d.items.length q4] 25)) := (Below.refl _ _).alloc (Nat.le_refl _) _
 have r6 := Row.made w6 25 #[.slice P3 d.frags.length q3, .slice P4 d.items.length q4]
 have HB6 := Lib.hid (b6.trans (hA6.mono b6.size))
 have HD := Lib.hid (fun (W : World) (h : Below (w6.alloc (.cells #[.slice P3 d.frags.length q3, .slice P4 d.items.length q4] 25)).heap.size (w6.alloc (.cells #[.slice P3 d.frags.length q3, .slice P4 d.items.length q4] 25)) W) => ((⟨_, _, rfl, (hk6a.below hA6).below h, (hk6b.below hA6).below h⟩ : Kns W AnyB (.agg #[.slice P3 d.frags.length q3, .slice P4 d.items.length q4]) d)))
 have R6 := Lib.hid r6
 have HDc := Lib.hid hd
 clear b6 hk6a hk6b hA6 r6 hd a0 a1 k0 k1 EX5
 go_wp2_with fail
 generalize hw6 : w6.heap.size = n6 at *
 generalize w6.alloc (.cells #[.slice P3 d.frags.length q3, .slice P4 d.items.length q4] 25) = W at *
 have HBW := Lib.hid (HB5b.out.trans (HB6.out.mono HB5b.out.size))
 have XC := Lib.hid (fun (W' : World) (h : Below W.heap.size W W') => (⟨((X0.out.below HBW.out X0.out.inHeap).below h ((X0.out.below HBW.out X0.out.inHeap).inHeap)).at 0, ((X0.out.below HBW.out X0.out.inHeap).below h ((X0.out.below HBW.out X0.out.inHeap).inHeap)).at 1, ((X1.out.below HBW.out X1.out.inHeap).below h ((X1.out.below HBW.out X1.out.inHeap).inHeap)).at 0, ((X1.out.below HBW.out X1.out.inHeap).below h ((X1.out.below HBW.out X1.out.inHeap).inHeap)).at 1, ((R5.out.below HB6.out R5.out.inHeap).below h ((R5.out.below HB6.out R5.out.inHeap).inHeap)).at 0, ((R5.out.below HB6.out R5.out.inHeap).below h ((R5.out.below HB6.out R5.out.inHeap).inHeap)).at 1, (R6.out.below h R6.out.inHeap).at 0, (R6.out.below h R6.out.inHeap).at 1⟩ : W'.cell? ⟨w.heap.size, 0, none⟩ = some (.int .i64 7) ∧ W'.cell? ⟨w.heap.size, 1, none⟩ = some (.int .i64 7) ∧ W'.cell? ⟨w.heap.size + 1, 0, none⟩ = some (.int .i64 1) ∧ W'.cell? ⟨w.heap.size + 1, 1, none⟩ = some (.int .i64 3) ∧ W'.cell? ⟨w5.heap.size, 0, none⟩ = some (.slice P1 c.frags.length q1) ∧ W'.cell? ⟨w5.heap.size, 1, none⟩ = some (.slice P2 c.items.length q2) ∧ W'.cell? ⟨n6, 0, none⟩ = some (.slice P3 d.frags.length q3) ∧ W'.cell? ⟨n6, 1, none⟩ = some (.slice P4 d.items.length q4)))
 have KO := Lib.hid (And.intro (Know.canon_ok Know.awK_ok HC.out) (Know.canon_ok (Know.aw_except HC.out) HDc.out))
 refine wp_region_held_drew (S := (fun w' : World => Below W.heap.size W w')) (by kernel_rfl) ((Below.refl _ _).drew) (fun hHeld => ?_)
 refine wpAnyH_tk (i := 0) (v := ?_) rfl (Or.inl ⟨by rfl, (by intro w hSw; obtain ⟨d0, d1, d2, d3, d4, d5, d6, d7⟩ := XC.out _ hSw; go_simp; try with_reducible rfl)⟩) (by assumption) ?_
 simp only [zz]
 refine wpAnyH_tk (i := 1) (v := ?_) rfl (Or.inl ⟨by rfl, (by intro w hSw; obtain ⟨d0, d1, d2, d3, d4, d5, d6, d7⟩ := XC.out _ hSw; go_simp; try with_reducible rfl)⟩) (by assumption) ?_
 simp only [zz]
 refine wpAnyH_tk (i := 2) (v := ?_) rfl (Or.inl ⟨by rfl, (by intro w hSw; obtain ⟨d0, d1, d2, d3, d4, d5, d6, d7⟩ := XC.out _ hSw; go_simp; try with_reducible rfl)⟩) (by assumption) ?_
 simp only [zz]
 refine wpAnyH_ready (rs := [3]) (by kernel_rfl) (by simp) ?_
 refine AllReadyH.cons rfl (fun K hK => ?_) AllReadyH.nil
 go_simp
 go_at_call 23
 refine (AL.out _).mono ?_
 rintro e wa ⟨va, rfl, ha, hbN⟩
 have HA := Lib.hid ha
 obtain ⟨Ava, cva, eva, -⟩ := ha.parts
 subst eva
 have hhN := hHeld.trans (hbN.mono hHeld.size)
 clear hbN ha
 refine hK.out _ _ hhN (fun hHeld => ?_)
 clear hhN
 clear hK K
 refine wpAnyH_ready (rs := [4]) (by kernel_rfl) (by simp) ?_
 refine AllReadyH.cons rfl (fun K hK => ?_) AllReadyH.nil
 go_simp
 go_at_call 13
 refine (CO.out _ _ c _ _ ⟨7, 7⟩ ⟨1, 3⟩ true KO.out.1 (by decide) ⟨fun _ => Know.aw_one HC.out, fun _ => rfl⟩ (HK.out _ (HB6.out.trans (hHeld.mono HB6.out.size))) HA.out).mono ?_
 rintro e wb ⟨rfl, hbN⟩
 have hhN := hHeld.trans (hbN.mono hHeld.size)
 clear hbN
 refine hK.out _ _ hhN (fun hHeld => ?_)
 clear hhN
 clear hK K
 refine wpAnyH_td (i := 5) rfl ?_
 simp only [zz]
 refine wpAnyH_tk (i := 6) (v := ?_) rfl (Or.inl ⟨by rfl, (by intro w hSw; obtain ⟨d0, d1, d2, d3, d4, d5, d6, d7⟩ := XC.out _ hSw; go_simp; try with_reducible rfl)⟩) (by assumption) ?_
 simp only [zz]
 refine wpAnyH_tk (i := 7) (v := ?_) rfl (Or.inl ⟨by rfl, (by intro w hSw; obtain ⟨d0, d1, d2, d3, d4, d5, d6, d7⟩ := XC.out _ hSw; go_simp; try with_reducible rfl)⟩) (by assumption) ?_
 simp only [zz]
 refine wpAnyH_tk (i := 8) (v := ?_) rfl (Or.inl ⟨by rfl, (by intro w hSw; obtain ⟨d0, d1, d2, d3, d4, d5, d6, d7⟩ := XC.out _ hSw; go_simp; try with_reducible rfl)⟩) (by assumption) ?_
 simp only [zz]
 refine wpAnyH_ready (rs := [9]) (by kernel_rfl) (by simp) ?_
 refine AllReadyH.cons rfl (fun K hK => ?_) AllReadyH.nil
 go_simp
 go_at_call 23
 refine (AL.out _).mono ?_
 rintro e wc ⟨vc, rfl, hc, hbN⟩
 have HCc := Lib.hid hc
 obtain ⟨Avc, cvc, evc, -⟩ := hc.parts
 subst evc
 have hhN := hHeld.trans (hbN.mono hHeld.size)
 clear hbN hc
 refine hK.out _ _ hhN (fun hHeld => ?_)
 clear hhN
 clear hK K
 refine wpAnyH_ready (rs := [10]) (by kernel_rfl) (by simp) ?_
 refine AllReadyH.cons rfl (fun K hK => ?_) AllReadyH.nil
 go_simp
 go_at_call 13
 refine (CO.out _ _ d _ _ ⟨7, 7⟩ ⟨1, 3⟩ false KO.out.2 (by decide) ⟨fun h => (by cases h), fun h => absurd h (Know.aw_two HC.out HDc.out)⟩ (HD.out _ hHeld) HCc.out).mono ?_
 rintro e wd ⟨rfl, hbN⟩
 have hhN := hHeld.trans (hbN.mono hHeld.size)
 clear hbN
 refine hK.out _ _ hhN (fun hHeld => ?_)
 clear hhN
 clear hK K
 refine wpAnyH_td (i := 11) rfl ?_
 simp only [zz]
 refine wpAnyH_td (i := 12) rfl ?_
 simp only [zz]
 refine wpAnyH_td (i := 13) rfl ?_
 simp only [zz]
 refine wpAnyH_tk (i := 14) (v := ?_) rfl (Or.inl ⟨by rfl, (by intro w hSw; obtain ⟨d0, d1, d2, d3, d4, d5, d6, d7⟩ := XC.out _ hSw; go_simp; try with_reducible rfl)⟩) (by assumption) ?_
 simp only [zz]
 refine wpAnyH_tk (i := 15) (v := ?_) rfl (Or.inl ⟨by rfl, (by intro w hSw; obtain ⟨d0, d1, d2, d3, d4, d5, d6, d7⟩ := XC.out _ hSw; go_simp; try with_reducible rfl)⟩) (by assumption) ?_
 simp only [zz]
 refine wpAnyH_tk (i := 16) (v := ?_) rfl (Or.inl ⟨by rfl, (by intro w hSw; obtain ⟨d0, d1, d2, d3, d4, d5, d6, d7⟩ := XC.out _ hSw; go_simp; try with_reducible rfl)⟩) (by assumption) ?_
 simp only [zz]
 refine wpAnyH_ready (rs := [17]) (by kernel_rfl) (by simp) ?_
 refine AllReadyH.cons rfl (fun K hK => ?_) AllReadyH.nil
 go_simp
 go_at_call 23
 refine (AL.out _).mono ?_
 rintro e we ⟨ve, rfl, he, hbN⟩
 have HEe := Lib.hid he
 obtain ⟨Ave, cve, eve, -⟩ := he.parts
 subst eve
 have hhN := hHeld.trans (hbN.mono hHeld.size)
 clear hbN he
 refine hK.out _ _ hhN (fun hHeld => ?_)
 clear hhN
 clear hK K
 refine wpAnyH_ready (rs := [18]) (by kernel_rfl) (by simp) ?_
 refine AllReadyH.cons rfl (fun K hK => ?_) AllReadyH.nil
 go_simp
 go_at_call 13
 refine (CO.out _ _ d _ _ ⟨1, 3⟩ ⟨1, 3⟩ true KO.out.2 (by decide) ⟨fun _ => Know.aw_three HC.out HDc.out, fun _ => rfl⟩ (HD.out _ hHeld) HEe.out).mono ?_
 rintro e wf ⟨rfl, hbN⟩
 have hhN := hHeld.trans (hbN.mono hHeld.size)
 clear hbN
 refine hK.out _ _ hhN (fun hHeld => ?_)
 clear hhN
 clear hK K
 refine wpAnyH_td (i := 19) rfl ?_
 simp only [zz]
 refine wpAnyH_td (i := 20) rfl ?_
 simp only [zz]
 refine wpAnyH_tk (i := 21) (v := ?_) rfl (Or.inl ⟨by rfl, (by intro w hSw; obtain ⟨d0, d1, d2, d3, d4, d5, d6, d7⟩ := XC.out _ hSw; go_simp; try with_reducible rfl)⟩) (by assumption) ?_
 simp only [zz]
 refine wpAnyH_tk (i := 22) (v := ?_) rfl (Or.inl ⟨by rfl, (by intro w hSw; obtain ⟨d0, d1, d2, d3, d4, d5, d6, d7⟩ := XC.out _ hSw; go_simp; try with_reducible rfl)⟩) (by assumption) ?_
 simp only [zz]
 refine wpAnyH_tk (i := 23) (v := ?_) rfl (Or.inl ⟨by rfl, (by intro w hSw; obtain ⟨d0, d1, d2, d3, d4, d5, d6, d7⟩ := XC.out _ hSw; go_simp; try with_reducible rfl)⟩) (by assumption) ?_
 simp only [zz]
 refine wpAnyH_tk (i := 25) (v := ?_) rfl (Or.inl ⟨by rfl, (by intro w hSw; obtain ⟨d0, d1, d2, d3, d4, d5, d6, d7⟩ := XC.out _ hSw; go_simp; try with_reducible rfl)⟩) (by assumption) ?_
 simp only [zz]
 refine wpAnyH_tk (i := 26) (v := ?_) rfl (Or.inl ⟨by rfl, (by intro w hSw; obtain ⟨d0, d1, d2, d3, d4, d5, d6, d7⟩ := XC.out _ hSw; go_simp; try with_reducible rfl)⟩) (by assumption) ?_
 simp only [zz]
 refine wpAnyH_ready (rs := [24]) (by kernel_rfl) (by simp) ?_
 refine AllReadyH.cons rfl (fun K hK => ?_) AllReadyH.nil
 go_simp
 go_at_call 8
 refine (AD.out _ c d _ HC.out HDc.out (HD.out _ hHeld)).mono ?_
 rintro e wg ⟨vg, g, rfl, hg, hkg, hbN⟩
 obtain ⟨p5, p6, rfl, hg1, hg2⟩ := hkg
 obtain ⟨P5, q5, rfl, -⟩ := hg1.parts
 obtain ⟨P6, q6, rfl, -⟩ := hg2.1.parts
 have HG := Lib.hid hg
 have HGK : Hid (Kns wg AnyB (.agg #[.slice P5 g.frags.length q5, .slice P6 g.items.length q6]) g) := Lib.hid ⟨_, _, rfl, hg1, hg2⟩
 have hhN := hHeld.trans (hbN.mono hHeld.size)
 clear hbN hg hg1 hg2
 refine hK.out _ _ hhN (fun hHeld => ?_)
 clear hhN
 clear hK K
 refine wpAnyH_ready (rs := [27]) (by kernel_rfl) (by simp) ?_
 refine AllReadyH.cons rfl (fun K hK => ?_) AllReadyH.nil
 go_simp
 go_at_call 23
 refine (AL.out _).mono ?_
 rintro e wh ⟨vh, rfl, hh, hbN⟩
 have HH := Lib.hid hh
 have HGK2 := Lib.hid (HGK.out.below hbN)
 obtain ⟨Avh, cvh, evh, -⟩ := hh.parts
 subst evh
 have hhN := hHeld.trans (hbN.mono hHeld.size)
 clear hbN hh
 refine hK.out _ _ hhN (fun hHeld => ?_)
 clear hhN
 clear hK K
 refine wpAnyH_ready (rs := [28]) (by kernel_rfl) (by simp) ?_
 refine AllReadyH.cons rfl (fun K hK => ?_) AllReadyH.nil
 go_simp
 go_at_call 13
 refine (CO.out _ _ g _ _ ⟨7, 7⟩ ⟨1, 3⟩ true (Know.canon_ok (Know.ok_more KO.out.2 (Know.aw_items HC.out HDc.out) (by decide) (by decide)) HG.out) (by decide) ⟨fun _ => Know.aw_four KO.out.2.sane HG.out _, fun _ => rfl⟩ HGK2.out HH.out).mono ?_
 rintro e wi ⟨rfl, hbN⟩
 have hhN := hHeld.trans (hbN.mono hHeld.size)
 clear hbN
 refine hK.out _ _ hhN (fun hHeld => ?_)
 clear hhN
 clear hK K
 refine wpAnyH_td (i := 29) rfl ?_
 simp only [zz]
 refine wpAnyH_td (i := 30) rfl ?_
 simp only [zz]
 refine wpAnyH_done (by kernel_rfl) ?_ _
 have HE := Lib.hid (HB2.out.trans ((HBW.out.trans (hHeld.mono HBW.out.size)).mono HB2.out.size))
 clear hHeld
 go_wp2_with fail
 go_ret
 exact ⟨rfl, HE.out⟩
open Go.RowKit Go.Sort
open Go.RowKit Go.Sort
open Go.RowKit Go.Sort
theorem law_contains (K : KnowOk) {w : World} {F G : Nat → Prop} {v u : Value} {k : Know.K} {f : List Flt.Cl} (i x : Ver.V) (q : Bool) (hv : Kns w F v k) (hu : Cls w G u f) (ok : Know.Ok k) (of : Cov.Ok f) (hx : Ver.Bd x) (hq : q = true ↔ Know.Contains k i x f) :
  Calls Tryz.prog 13 #[v, verA i, verA x, u] w fun e w' => e = .returned (.bool q) ∧ Below w.heap.size w w' :=
 (K.contains i x hv hu ok of hx).mono fun e w' h => by
  obtain ⟨⟨b, e1, e2⟩, h2⟩ := h
  have : b = q := by rw [Bool.eq_iff_iff, e2, hq]
  rw [e1, this]; exact ⟨rfl, h2⟩
theorem law_refcon {w : World} {F G : Nat → Prop} {v u : Value} {k : Know.K} {f : List Flt.Cl} (i x : Ver.V) (q : Bool) (hv : Kns w F v k) (hu : Cls w G u f) (ok : Know.Ok k) (of : f.length ≤ 24 ∧ ∀ c ∈ f, Flt.Right c) (hq : q = true ↔ Know.Contains k i x f) :
  Calls Tryz.prog 14 #[v, verA i, verA x, u] w fun e w' => e = .returned (.bool q) ∧ Below w.heap.size w w' :=
 (ref_kcontains i x hv hu (ok_kbd ok) (Nat.le_trans of.1 (by decide)) (fun c hc => by have := Cov.pre_small (of.2 c hc); omega)).mono fun e w' h => by
  obtain ⟨e1, h2⟩ := h
  have : decide (Know.Contains k i x f) = q := by rw [Bool.eq_iff_iff, decide_eq_true_iff, hq]
  rw [e1, this]; exact ⟨rfl, h2⟩
theorem saneF_ok (f : List Flt.Cl) : Cov.Ok (Know.saneF f) := Know.cov_ok (Know.saneF_fine f).1 (Know.saneF_fine f).2
theorem wpAnyH_named {P : Program} {md : Region.Mode} {ops : Array Oper} {Q : Exit → Act → World → Prop} {S : World → Prop} {fuel : Nat} {listed : Array Bool} {a : Act} {w : World}
  (h : ∀ G : Nat → Array Bool → Act → World → Prop, (∀ f l b v, wpAnyH P md ops Q S f l b v → G f l b v) → (∀ f l l' b b' v, G f l' b' v → l = l' → b = b' → wpAnyH P md ops Q S f l b v) → (let fr := a; G fuel listed fr w)) : wpAnyH P md ops Q S fuel listed a w :=
 h _ (fun _ _ _ _ h => h) (fun _ _ _ _ _ _ h e1 e2 => by rw [e1, e2]; exact h)
theorem hxt {X Y : World} {P : World → Prop} (h : Hid (∀ W, Below X.heap.size X W → P W)) (k : Below X.heap.size X Y) : Hid (∀ W, Below Y.heap.size Y W → P W) := Lib.hid fun W q => h.out W (k.trans (q.mono k.size))
end Go.Proofs.YtkcgmnhjofoeiaaGreat
