import Derived.Test.YtkcgmnhjofoeiaaGreatCom4
import Derived.Test.YtkcgmnhjofoeiaaGreatCom6
import Derived.Test.YtkcgmnhjofoeiaaGreatCom7
import Derived.Test.YtkcgmnhjofoeiaaGreatCom3
import Derived.Laws.IdiomCopy
import Derived.Laws.OwnMore
import Derived.Lib.SlicesCompact
import Derived.Tactics
set_option maxRecDepth 100000
set_option linter.all false
namespace Go.Proofs.YtkcgmnhjofoeiaaGreat
open Go.RowKit
structure RFr where
 fv : Value
 nv : Value
 x : Know.Fr
def rfV (r : RFr) : List Value := r.fv :: (vecL r.x.v ++ [r.nv])
def itV (i : Know.It) : List Value := verV i.item ++ vecL i.v
abbrev frA (r : RFr) : Value := .agg (rfV r).toArray
abbrev itA (i : Know.It) : Value := .agg (itV i).toArray
structure RFr.In (w : World) (F : Nat → Prop) (r : RFr) : Prop where
 f : Cls w F r.fv r.x.f
 no : Vrs w F r.nv r.x.no
 len : r.x.v.length = 65
def Frs (w : World) (F : Nat → Prop) (v : Value) (l : List Know.Fr) : Prop := ∃ rs : List RFr, rs.map (·.x) = l ∧ Rws 67 rfV w F v rs ∧ ∀ r ∈ rs, r.In w F
def Its (w : World) (F : Nat → Prop) (v : Value) (l : List Know.It) : Prop := Rws 67 itV w F v l ∧ ∀ i ∈ l, i.v.length = 65
def Kns (w : World) (F : Nat → Prop) (v : Value) (k : Know.K) : Prop := ∃ a b, v = .agg #[a, b] ∧ Frs w F a k.frags ∧ Its w F b k.items
def AnyB (_ : Nat) : Prop := True
section
variable {w w' : World} {F G : Nat → Prop} {v : Value}
theorem rf_len {r : RFr} (h : r.x.v.length = 65) : (rfV r).length = 67 := by
 unfold rfV
 rw [List.length_cons, List.length_append, vecL_len, h]; rfl
theorem it_len {i : Know.It} (h : i.v.length = 65) : (itV i).length = 67 := by
 unfold itV
 rw [List.length_append, vecL_len, h]; rfl
theorem vec_one (v : List Int) : ∀ u ∈ vecL v, u.oneCell' = true := by
 intro u hu
 obtain ⟨n, _, rfl⟩ := List.mem_map.1 hu
 rfl
theorem Rws.one {α : Type} {k : Nat} {f : α → List Value} {l : List α} (h : Rws k f w F v l) : v.oneCell' = true := by
 obtain ⟨A, cap, rfl, -⟩ := h
 rfl
theorem RFr.In.one {r : RFr} (h : r.In w F) : ∀ u ∈ rfV r, u.oneCell' = true := by
 intro u hu
 rcases List.mem_cons.1 hu with rfl | hu
 ·exact h.f.one
 ·rcases List.mem_append.1 hu with hu | hu
  ·exact vec_one _ u hu
  ·rw [List.mem_singleton.1 hu]; exact h.no.one
theorem it_one (i : Know.It) : ∀ u ∈ itV i, u.oneCell' = true := by
 intro u hu
 rcases List.mem_append.1 hu with hu | hu
 ·exact ver_one _ u hu
 ·exact vec_one _ u hu
theorem RFr.In.kept {r : RFr} (h : r.In w F) (k : Kept G w w') (hd : ∀ i, F i → ¬ G i) : r.In w' F := ⟨h.f.kept k hd, h.no.kept k hd, h.len⟩
theorem RFr.In.below {r : RFr} (h : r.In w F) (k : Below w.heap.size w w') : r.In w' F := ⟨Rws.below h.f k, Rws.below h.no k, h.len⟩
theorem RFr.In.mono {r : RFr} (h : r.In w F) (k : ∀ i, F i → G i) : r.In w G := ⟨h.f.mono k, h.no.mono k, h.len⟩
theorem RFr.In.any {r : RFr} (h : r.In w F) : r.In w AnyB := h.mono (fun _ _ => trivial)
theorem RFr.In.lt {r : RFr} (h : r.In w F) : r.In w (fun i => F i ∧ i < w.heap.size) := ⟨h.f.lt, h.no.lt, h.len⟩
variable {l : List Know.Fr} {m : List Know.It} {k : Know.K}
theorem Frs.kept (h : Frs w F v l) (hk : Kept G w w') (hd : ∀ i, F i → ¬ G i) : Frs w' F v l := by
 obtain ⟨rs, h1, h2, h3⟩ := h
 exact ⟨rs, h1, h2.kept hk hd, fun r hr => (h3 r hr).kept hk hd⟩
theorem Frs.below (h : Frs w F v l) (hk : Below w.heap.size w w') : Frs w' F v l := by
 obtain ⟨rs, h1, h2, h3⟩ := h
 exact ⟨rs, h1, Rws.below h2 hk, fun r hr => (h3 r hr).below hk⟩
theorem Frs.mono (h : Frs w F v l) (hF : ∀ i, F i → G i) : Frs w G v l := by
 obtain ⟨rs, h1, h2, h3⟩ := h
 exact ⟨rs, h1, h2.mono hF, fun r hr => (h3 r hr).mono hF⟩
theorem Frs.any (h : Frs w F v l) : Frs w AnyB v l := h.mono (fun _ _ => trivial)
theorem Frs.parts (h : Frs w F v l) : ∃ A cap, v = .slice A l.length cap ∧ l.length ≤ cap := by
 obtain ⟨rs, rfl, h2, h3⟩ := h
 obtain ⟨A, cap, e, hc⟩ := h2.parts
 rw [List.length_map]
 exact ⟨A, cap, e, hc⟩
theorem Frs.len (h : Frs w F v l) : ∀ x ∈ l, x.v.length = 65 := by
 obtain ⟨rs, rfl, h2, h3⟩ := h
 intro x hx
 obtain ⟨r, hr, rfl⟩ := List.mem_map.1 hx
 exact (h3 r hr).len
theorem Frs.empty (w : World) (F : Nat → Prop) (A : Option Addr) (c : Nat) : Frs w F (.slice A 0 c) [] := ⟨[], rfl, Rws.empty _ _ _ _, fun _ h => (by cases h)⟩
theorem Its.kept (h : Its w F v m) (hk : Kept G w w') (hd : ∀ i, F i → ¬ G i) : Its w' F v m := ⟨h.1.kept hk hd, h.2⟩
theorem Its.below (h : Its w F v m) (hk : Below w.heap.size w w') : Its w' F v m := ⟨Rws.below h.1 hk, h.2⟩
theorem Its.mono (h : Its w F v m) (hF : ∀ i, F i → G i) : Its w G v m := ⟨h.1.mono hF, h.2⟩
theorem Its.any (h : Its w F v m) : Its w AnyB v m := h.mono (fun _ _ => trivial)
theorem Its.empty (w : World) (F : Nat → Prop) (A : Option Addr) (c : Nat) : Its w F (.slice A 0 c) [] := ⟨Rws.empty _ _ _ _, fun _ h => (by cases h)⟩
theorem Kns.below (h : Kns w F v k) (hk : Below w.heap.size w w') : Kns w' F v k := by
 obtain ⟨a, b, e, h1, h2⟩ := h
 exact ⟨a, b, e, h1.below hk, h2.below hk⟩
theorem Kns.any (h : Kns w F v k) : Kns w AnyB v k := by
 obtain ⟨a, b, e, h1, h2⟩ := h
 exact ⟨a, b, e, h1.any, h2.any⟩
end
namespace Know
open Flt (Cl)
def many (l : List Fr) : Nat := (l.map fun x => x.f.length).sum
def wt (l : List Fr) : Nat := (l.map fun x => (Flt.prefixes x.f).length).sum
structure Ok (k : K) : Prop where
 fr : k.frags.length ≤ 1000
 it : k.items.length ≤ 1000
 cl : many k.frags ≤ 100000
 wt : wt k.frags ≤ 490
 sane : SaneK k
 len : ∀ x ∈ k.frags, x.v.length = 65
 no : ∀ x ∈ k.frags, x.no.length ≤ 1000
 lenI : ∀ i ∈ k.items, i.v.length = 65
 bd : ∀ i ∈ k.items, ∀ n ∈ i.v, Ver.I64 n
 bdI : ∀ i ∈ k.items, Ver.Bd i.item
theorem sum_le {α : Type} (f g : α → Nat) : ∀ (l : List α), (∀ x ∈ l, f x ≤ g x) → (l.map f).sum ≤ (l.map g).sum
 | [], _ => Nat.le_refl _
 | x :: l, h => by
  have h1 := h x (List.mem_cons_self ..)
  have h2 := sum_le f g l (fun y hy => h y (List.mem_cons_of_mem _ hy))
  simp only [List.map_cons, List.sum_cons]
  omega
theorem sum_mem {α : Type} (f : α → Nat) : ∀ {l : List α} {x : α}, x ∈ l → f x ≤ (l.map f).sum
 | y :: l, x, h => by
  simp only [List.map_cons, List.sum_cons]
  rcases List.mem_cons.1 h with rfl | h
  ·omega
  ·have := sum_mem f h; omega
theorem sum_mul {α : Type} (f : α → Nat) (c : Nat) : ∀ (l : List α), (l.map fun x => f x * c).sum = (l.map f).sum * c
 | [] => by simp
 | x :: l => by
  simp only [List.map_cons, List.sum_cons, sum_mul f c l, Nat.add_mul]
theorem sum_add {α : Type} (f g : α → Nat) : ∀ (l : List α), (l.map fun x => f x + g x).sum = (l.map f).sum + (l.map g).sum
 | [] => rfl
 | x :: l => by
  simp only [List.map_cons, List.sum_cons, sum_add f g l]
  omega
theorem len_le {α : Type} [DecidableEq α] : ∀ {l m : List α}, l.Nodup → (∀ x ∈ l, x ∈ m) → l.length ≤ m.length
 | [], _, _, _ => Nat.zero_le _
 | x :: l, m, hl, h => by
  obtain ⟨h1, h2⟩ := List.nodup_cons.1 hl
  have hx := h x (List.mem_cons_self ..)
  have ih := len_le (l := l) (m := m.erase x) h2 (fun y hy => (List.mem_erase_of_ne (fun e => h1 (by rw [← e]; exact hy))).2 (h y (List.mem_cons_of_mem _ hy)))
  rw [List.length_erase_of_mem hx] at ih
  have : 0 < m.length := List.length_pos_of_mem hx
  rw [List.length_cons]
  omega
theorem class_sum {α β : Type} (R : α → β → Prop) [∀ a b, Decidable (R a b)] (f : β → Nat) (c : List α) (hc : c.Pairwise fun a a' => ∀ b, R a b → ¬ R a' b) : ∀ (l : List β), (c.map fun a => ((l.filter fun b => decide (R a b)).map f).sum).sum ≤ (l.map f).sum
 | [] => by
  have : ∀ c : List α, (c.map fun a => ((([] : List β).filter fun b => decide (R a b)).map f).sum).sum = 0 := by
   intro c
   induction c with
   | nil => rfl
   | cons a c ih => simpa using ih
  rw [this]; exact Nat.zero_le _
 | b :: l => by
  have ih := class_sum R f c hc l
  have hone : ∀ (c : List α), (c.Pairwise fun a a' => ∀ b, R a b → ¬ R a' b) → (c.map fun a => if R a b then f b else 0).sum ≤ f b := by
   intro c hc
   induction c with
   | nil => exact Nat.zero_le _
   | cons a c ihc =>
    obtain ⟨h1, h2⟩ := List.pairwise_cons.1 hc
    rw [List.map_cons, List.sum_cons]
    by_cases h : R a b
    ·rw [if_pos h]
     have : (c.map fun a => if R a b then f b else 0).sum = 0 := by
      have hz : ∀ a' ∈ c, (if R a' b then f b else 0) = 0 := fun a' ha' => if_neg (h1 a' ha' b h)
      rw [List.map_congr_left hz]
      clear ihc hc h1 h2 hz
      induction c with
      | nil => rfl
      | cons a c ih => simpa using ih
     omega
    ·rw [if_neg h]
     have := ihc h2
     omega
  have hsplit : ∀ a, (((b :: l).filter fun b => decide (R a b)).map f).sum = (if R a b then f b else 0) + ((l.filter fun b => decide (R a b)).map f).sum := by
   intro a
   by_cases h : R a b
   ·rw [List.filter_cons, if_pos (by simpa using h), if_pos h, List.map_cons, List.sum_cons]
   ·rw [List.filter_cons, if_neg (by simpa using h), if_neg h, Nat.zero_add]
  have e : (c.map fun a => (((b :: l).filter fun b => decide (R a b)).map f).sum) = c.map fun a => (if R a b then f b else 0) + ((l.filter fun b => decide (R a b)).map f).sum := List.map_congr_left (fun a _ => hsplit a)
  rw [e, sum_add, List.map_cons, List.sum_cons]
  have := hone c hc
  omega
theorem flat_len {α β : Type} (g : α → List β) : ∀ l : List α, (l.flatMap g).length = (l.map fun x => (g x).length).sum
 | [] => rfl
 | x :: l => by rw [List.flatMap_cons, List.length_append, List.map_cons, List.sum_cons, flat_len g l]
theorem gather_prefixes (l : List Fr) (v : List Int) (no : List Ver.V) : (Flt.prefixes (gather l v no)).length ≤ ((l.filter fun z => decide (Vec.clean z.v = v ∧ Ver.sort z.no = no)).map fun z => (Flt.prefixes z.f).length).sum := by
 rw [← flat_len]
 refine Cov.prefixes_in (fun c hc => ?_)
 obtain ⟨x, hx, hcx⟩ := List.mem_flatMap.1 hc
 exact List.mem_flatMap.2 ⟨x, hx, (Flt.prefixes_mem _ _).2 ⟨c, hcx, rfl⟩⟩
theorem canon_wt {k c : K} (h : Canon k c) : wt c.frags ≤ wt k.frags := by
 have h1 : wt c.frags ≤ (c.frags.map fun x => ((k.frags.filter fun z => decide (Vec.clean z.v = x.v ∧ Ver.sort z.no = x.no)).map fun z => (Flt.prefixes z.f).length).sum).sum := by
  refine sum_le _ _ _ (fun x hx => ?_)
  have hc := ((h.frags x).1 hx).1
  rw [cand_f hc]
  exact Nat.le_trans (Cov.norm_prefixes _) (gather_prefixes _ _ _)
 refine Nat.le_trans h1 (class_sum (fun (x : Fr) (z : Fr) => Vec.clean z.v = x.v ∧ Ver.sort z.no = x.no) (fun z => (Flt.prefixes z.f).length) c.frags (h.upF.imp (fun {a b} hab z hz hz2 => ?_)) k.frags)
 have hk : Keyd a b := ⟨hz.1.symm.trans hz2.1, hz.2.symm.trans hz2.2⟩
 exact flt_irrefl b ((flt_key hk ⟨rfl, rfl⟩).1 hab)
theorem canon_many {k c : K} (h : Canon k c) : many c.frags ≤ wt c.frags * 202 := by
 unfold many wt
 rw [← sum_mul]
 refine sum_le _ _ _ (fun x hx => ?_)
 have hc := ((h.frags x).1 hx).1
 have := Cov.norm_short x.f
 rwa [hc.1] at this
theorem canon_fr {k c : K} (h : Canon k c) : c.frags.length ≤ k.frags.length := by
 have := len_le (l := c.frags) (m := k.frags.map (mk k.frags)) (h.upF.imp (fun {a b} hab e => by rw [e] at hab; exact flt_irrefl _ hab)) (fun x hx => by
  obtain ⟨z, hz, e⟩ := cand_mk ((h.frags x).1 hx).1
  exact List.mem_map.2 ⟨z, hz, e.symm⟩)
 rwa [List.length_map] at this
theorem canon_it {k c : K} (h : Canon k c) : c.items.length ≤ k.items.length := by
 have hn : (c.items.map (·.item)).Nodup := by
  refine List.pairwise_map.2 (h.upI.imp (fun {a b} hab e => ?_))
  have hab : Ver.Before a.item b.item := hab
  rw [e] at hab
  exact Ver.before_irrefl _ hab
 have := len_le (m := k.items.map (·.item)) hn (fun x hx => by
  obtain ⟨i, hi, rfl⟩ := List.mem_map.1 hx
  obtain ⟨-, ⟨y, hy⟩, h3⟩ := (h.items i).1 hi
  obtain ⟨j, hj, e, -⟩ := (h3 y).1 hy
  exact List.mem_map.2 ⟨j, hj, e⟩)
 rwa [List.length_map, List.length_map] at this
theorem canon_bd {k c : K} (h : Canon k c) (hb : ∀ i ∈ k.items, ∀ n ∈ i.v, Ver.I64 n) : ∀ i ∈ c.items, ∀ n ∈ i.v, Ver.I64 n := by
 intro i hi n hn
 obtain ⟨hp, -, h3⟩ := (h.items i).1 hi
 obtain ⟨j, hj⟩ := List.getElem?_of_mem hn
 have hj65 : j < 65 := by have := (List.getElem?_eq_some_iff.1 hj).1; rw [hp.1] at this; exact this
 have e := hp.2 j hj65
 rw [hj] at e
 injection e with e
 have h0 := Vec.at_nonneg i.v j
 by_cases hpos : 1 ≤ n
 ·have hr : 1 ≤ j ∧ j ≤ 64 := by
   refine Classical.byContradiction (fun hh => ?_)
   rw [Vec.at_zero _ _ hh] at e
   omega
  have hy : Vec.Has i.v ⟨(j : Int), n⟩ := by
   rw [Vec.has_at]
   refine ⟨⟨by show (1 : Int) ≤ (j : Int); omega, by show (j : Int) ≤ 64; omega, hpos⟩, ?_⟩
   show n ≤ Vec.at_ i.v ((j : Int)).toNat
   rw [Int.toNat_natCast]; omega
  obtain ⟨z, hz, -, hzy⟩ := (h3 _).1 hy
  rw [Vec.has_at] at hzy
  have h4 : n ≤ Vec.at_ z.v j := by
   have := hzy.2
   rwa [show ((⟨(j : Int), n⟩ : Ver.V).by_).toNat = j from Int.toNat_natCast j] at this
  have := Vec.at_le (fun n hn => (hb z hz n hn).2) j
  unfold Ver.I64
  omega
 ·unfold Ver.I64; omega
theorem canon_no {k c : K} (h : Canon k c) {N : Nat} (hn : ∀ x ∈ k.frags, x.no.length ≤ N) : ∀ x ∈ c.frags, x.no.length ≤ N := by
 intro x hx
 obtain ⟨z, hz, e⟩ := cand_mk ((h.frags x).1 hx).1
 rw [e]
 exact Nat.le_trans (Ver.sort_len z.no) (hn z hz)
theorem canon_ok {k c : K} (hk : Ok k) (h : Canon k c) : Ok c where
 fr := Nat.le_trans (canon_fr h) hk.fr
 it := Nat.le_trans (canon_it h) hk.it
 cl := by
  have h1 := canon_many h
  have h2 := canon_wt h
  have h3 := hk.wt
  omega
 wt := Nat.le_trans (canon_wt h) hk.wt
 sane := canon_sane hk.sane h
 len := fun x hx => ((h.frags x).1 hx).1.2.1.1
 no := canon_no h hk.no
 lenI := fun i hi => ((h.items i).1 hi).1.1
 bd := canon_bd h hk.bd
 bdI := fun i hi => by
  obtain ⟨-, ⟨y, hy⟩, h3⟩ := (h.items i).1 hi
  obtain ⟨j, hj, e, -⟩ := (h3 y).1 hy
  rw [← e]; exact hk.bdI j hj
theorem ok_cov {k : K} (h : Ok k) {x : Fr} (hx : x ∈ k.frags) : Cov.Ok x.f := Cov.Ok.of (Nat.le_trans (sum_mem (fun x : Fr => x.f.length) hx) h.cl) (h.sane x hx)
end Know
structure KnowOk : Prop where
 contains : ∀ {w : World} {F G : Nat → Prop} {v u : Value} {k : Know.K} {f : List Flt.Cl} (item x : Ver.V), Kns w F v k → Cls w G u f → Know.Ok k → Cov.Ok f → Ver.Bd x → Calls Tryz.prog 13 #[v, verA item, verA x, u] w fun e w' => (∃ b : Bool, e = .returned (.bool b) ∧ (b = true ↔ Know.Contains k item x f)) ∧ Below w.heap.size w w'
 add : ∀ {w : World} {F : Nat → Prop} {v : Value} {k : Know.K} (item x : Ver.V), Kns w F v k → Know.Ok (Know.union k ⟨[], [⟨item, Vec.ofl [x]⟩]⟩) → Ver.Bd x → Calls Tryz.prog 8 #[v, verA item, verA x] w fun e w' => ∃ v' c, e = .returned v' ∧ Know.Canon (Know.union k ⟨[], [⟨item, Vec.ofl [x]⟩]⟩) c ∧ Kns w' AnyB v' c ∧ Below w.heap.size w w'
 grant : ∀ {w : World} {F G : Nat → Prop} {v : Value} {k : Know.K} {r : RFr}, Kns w F v k → r.In w G → Know.Ok (Know.union k ⟨[r.x], []⟩) → Calls Tryz.prog 9 #[v, frA r] w fun e w' => ∃ v' c, e = .returned v' ∧ Know.Canon (Know.union k ⟨[r.x], []⟩) c ∧ Kns w' AnyB v' c ∧ Below w.heap.size w w'
 except : ∀ {w : World} {F : Nat → Prop} {v : Value} {k : Know.K} (item : Ver.V), Kns w F v k → Know.Ok k → Know.Ok (Know.except k item) → Calls Tryz.prog 24 #[v, verA item] w fun e w' => ∃ v' c, e = .returned v' ∧ Know.Canon (Know.except k item) c ∧ Kns w' AnyB v' c ∧ Below w.heap.size w w'
open Go.RowKit
def Near (w : World) (v v' : Value) : Prop := v'.ownBlock = v.ownBlock ∨ ∀ g, v'.ownBlock = some g → w.heap.size ≤ g
theorem Near.refl (w : World) (v : Value) : Near w v v := Or.inl rfl
theorem Near.apart {w w' : World} {u v v' : Value} {base t size n : Nat} {xs : List Value} (h : Near w' v v') (ha : ∀ g, u.ownBlock = some g → v.ownBlock ≠ some g) (hu : w.ownsRow base t size u n xs) (hs : w.heap.size ≤ w'.heap.size) : ∀ g, u.ownBlock = some g → v'.ownBlock ≠ some g := by
 intro g hg e
 rcases h with h | h
 ·exact ha g hg (h ▸ e)
 ·have := (hu.lt g hg).2
  have := h g e
  omega
section
variable {P : Program} {α : Type} {k : Nat} {f : α → List Value}
theorem append_near {w : World} (base : Nat) (t ty e : TypeId) (i : TypeInfo) (z : Value) (size bytes : Nat) (ht : P.underlying t = some (.slice e)) (hi : P.info? e = some i) (hz : i.zero = some z)
    (hsize : i.size = size) (hby : i.bytes = bytes) (hzs : z.cells.size = size) (hsz : 0 < size) {v : Value} {n : Nat} {xs : List Value} (hown : w.ownsRow base e size v n xs)
    (a : Addr) (m c : Nat) (news : List Value) (hl : news.length = m * size) (hnews : ∀ j u, news[j]? = some u → w.cell? (a.add j) = some u) (h1 : ∀ u ∈ news, u.oneCell' = true)
    (h63 : n + m ≤ maxLen) (hbytes : (n + m) * bytes ≤ 140737488355328) {v' : Value} {w' : World} (hr : (Builtin.append_ #[t, t] ty #[v, .slice (some a) m c]).run P w = .ok v' w') : Near w v v' := by
  have hsmall : n + m ≤ 9223372036854775807 := by simp only [maxLen] at h63; omega
  rcases hown.2 with ⟨rfl, rfl⟩ | ⟨g, cap, cur, rfl, hbg, hg, hnc, hcm, hcs, htake⟩
  · obtain ⟨v2, w2, r1, r2, -, -⟩ := run_append_own w w.heap.size t ty e i z size bytes ht hi hz hsize hby hzs hsz (.slice none 0 0) 0 [] (World.ownsRow_nil _ _ _ _) a m c news hl hnews h1 h63 hbytes (Nat.le_refl _)
    rw [hr] at r1
    injection r1 with e1 e2
    subst e1
    exact Or.inr (fun g hg => (r2.lt g hg).1)
  · subst hsize
    subst hby
    by_cases hroom : n + m ≤ cap
    · have hfit : n * i.size + news.length ≤ cur.size := by rw [hl, hcs, ← Nat.add_mul]; exact Nat.mul_le_mul_right _ hroom
      have r1 := run_append_room (P := P) w t ty e i ht hi g n cap cur hg a m c news hl hnews h1 hroom hfit
      rw [hr] at r1
      injection r1 with e1 e2
      subst e1
      exact Or.inl rfl
    · have r1 := run_append_grow (P := P) w t ty e i z ht hi hz ⟨g, 0, none⟩ n cap xs hown.1 (hown.cells (g := g) rfl) a m c news hl hnews (by omega) (by omega) (growslice_fits (by omega) hbytes)
      rw [hr] at r1
      injection r1 with e1 e2
      subst e1
      exact Or.inr (fun g' hg' => by have : w.heap.size = g' := by simpa [Value.ownBlock] using hg'
                                     omega)
theorem join_near {w : World} (base : Nat) (t ty e : TypeId) (i : TypeInfo) (z : Value) (bytes : Nat) (ht : P.underlying t = some (.slice e)) (hi : P.info? e = some i) (hz : i.zero = some z) (hsize : i.size = k) (hby : i.bytes = bytes) (hzs : z.cells.size = k) (hsz : 0 < k)
  {v xv : Value} {n : Nat} {xs : List Value} {F : Nat → Prop} {l : List α} (hown : w.ownsRow base e k v n xs) (hx : Rws k f w F xv l) (hk : ∀ x ∈ l, (f x).length = k) (h1 : ∀ x ∈ l, ∀ u ∈ f x, u.oneCell' = true)
  (h63 : n + l.length ≤ maxLen) (hbytes : (n + l.length) * bytes ≤ 140737488355328) (hbase : base ≤ w.heap.size) :
  ∃ v' w', (Builtin.append_ #[t, t] ty #[v, xv]).run P w = .ok v' w' ∧ w'.ownsRow base e k v' (n + l.length) (xs ++ l.flatMap f) ∧ w.grownBy w' v.ownBlock ∧ Near w v v' := by
 obtain ⟨v', w', r1, r2, r3⟩ := join_rows (P := P) base t ty e i z bytes ht hi hz hsize hby hzs hsz hown hx hk h1 h63 hbytes hbase
 refine ⟨v', w', r1, r2, r3, ?_⟩
 obtain ⟨A, c, rfl, hc, hat⟩ := hx
 have hone : ∀ u ∈ l.flatMap f, u.oneCell' = true := by
  intro u hu
  obtain ⟨x, hx, hu⟩ := List.mem_flatMap.1 hu
  exact h1 x hx u hu
 have hgo : ∀ ad : Addr, A = some ad → (∀ j u, (l.flatMap f)[j]? = some u → w.cell? (ad.add j) = some u) → Near w v v' := by
  rintro ad rfl hnews
  exact append_near base t ty e i z k bytes ht hi hz hsize hby hzs hsz hown ad l.length c (l.flatMap f) (rows_len l hk) hnews hone h63 hbytes r1
 by_cases h0 : 0 < l.length
 ·obtain ⟨b, o, rfl, -, hbl, hcell⟩ := hat h0
  refine hgo _ rfl (fun j u hu => ?_)
  obtain ⟨m, x, r, e1, e2, rfl⟩ := rows_of l hk j u hu
  rw [Go.WideShapes.add_plain, ← Nat.add_assoc]
  exact hcell m x e1 r u e2
 ·have hl : l = [] := List.eq_nil_of_length_eq_zero (by omega)
  subst hl
  cases A with
  | none =>
   have r4 := join_nothing (P := P) base t ty e i k c ht hi v n xs hown
   rw [show ([] : List α).length = 0 from rfl, r4] at r1
   injection r1 with e1 e2
   exact Or.inl (by rw [e1])
  | some ad => exact hgo ad rfl (fun j u hu => by simp at hu)
theorem wp_joins {ops : Array Oper} {rest : List Oper} {o : Oper} {a : Act} {w : World} {Q : Exit → Act → World → Prop} (hgd : o.guard = none) (s x : Operand) (t : TypeId)
  (ho : o.op = .call { callee := .builtin .append, args := #[s, x], argTypes := #[t, t] }) (base : Nat) (e : TypeId) (i : TypeInfo) (z : Value) (bytes : Nat) (ht : P.underlying t = some (.slice e)) (hi : P.info? e = some i) (hz : i.zero = some z)
  (hsize : i.size = k) (hby : i.bytes = bytes) (hzs : z.cells.size = k) (hsz : 0 < k) {v xv : Value} {n : Nat} {xs : List Value} {F : Nat → Prop} {l : List α} (hs : a.eval s = v) (hx : a.eval x = xv)
  (hown : w.ownsRow base e k v n xs) (hr : Rws k f w F xv l) (hk : ∀ x ∈ l, (f x).length = k) (h1 : ∀ x ∈ l, ∀ u ∈ f x, u.oneCell' = true) (h63 : n + l.length ≤ maxLen) (hbytes : (n + l.length) * bytes ≤ 140737488355328) (hbase : base ≤ w.heap.size)
  (h : ∀ v' w', w'.ownsRow base e k v' (n + l.length) (xs ++ l.flatMap f) → w.grownBy w' v.ownBlock → Near w v v' → wpList P ops Q rest (a.put o.dst v') w') : wpList P ops Q (o :: rest) a w :=
 wpList_plain hgd fun _ hK => by
  obtain ⟨v', w', r1, r2, r3, r4⟩ := join_near (P := P) base t o.type e i z bytes ht hi hz hsize hby hzs hsz hown hr hk h1 h63 hbytes hbase
  unfold Oper.wp execOp
  simp only [ho, resolve, invoke, builtin, Sem.run_bind, Sem.run_pure, Result.andThen_ok, List.map_toArray, List.map_cons, List.map_nil, hs, hx, r1]
  exact hK _ _ (h v' w' r2 r3 r4)
theorem step_near {ops : Array Oper} {o : Oper} {a : Act} {w : World} {K : Act → World → Prop} {Q : Exit → Act → World → Prop} {E : Prop} (hgd : o.guard = none) (s x : Operand) (t : TypeId)
  (ho : o.op = .call { callee := .builtin .append, args := #[s, x], argTypes := #[t, t] }) (base : Nat) (e : TypeId) (i : TypeInfo) (z : Value) (bytes : Nat) (ht : P.underlying t = some (.slice e)) (hi : P.info? e = some i) (hz : i.zero = some z)
  (hsize : i.size = k) (hby : i.bytes = bytes) (hzs : z.cells.size = k) (hsz : 0 < k) {v xv : Value} {n : Nat} {xs : List Value} {F : Nat → Prop} {l : List α} (hs : a.eval s = v) (hx : a.eval x = xv)
  (hown : w.ownsRow base e k v n xs) (hr : Rws k f w F xv l) (hk : ∀ x ∈ l, (f x).length = k) (h1 : ∀ x ∈ l, ∀ u ∈ f x, u.oneCell' = true) (h63 : n + l.length ≤ maxLen) (hbytes : (n + l.length) * bytes ≤ 140737488355328) (hbase : base ≤ w.heap.size)
  (h : ∀ v' w', w'.ownsRow base e k v' (n + l.length) (xs ++ l.flatMap f) → w.grownBy w' v.ownBlock → Near w v v' → K (a.put o.dst v') w') :
  if Region.wanted o (yielded ops a.tmps) = true then Oper.wp P o a w K Q else E := by
 rw [if_pos (by simp [Region.wanted, hgd])]
 obtain ⟨v', w', r1, r2, r3, r4⟩ := join_near (P := P) base t o.type e i z bytes ht hi hz hsize hby hzs hsz hown hr hk h1 h63 hbytes hbase
 unfold Oper.wp execOp
 simp only [ho, resolve, invoke, builtin, Sem.run_bind, Sem.run_pure, Result.andThen_ok, List.map_toArray, List.map_cons, List.map_nil, hs, hx, r1]
 exact h v' w' r2 r3 r4
end
theorem own_left {w w' : World} {base t size n : Nat} {v : Value} {xs : List Value} {r : Option Nat} (h : w.ownsRow base t size v n xs) (hg : w.grownBy w' r) (hne : ∀ g, v.ownBlock = some g → r ≠ some g) : w'.ownsRow base t size v n xs := by
 refine ⟨h.1, ?_⟩
 rcases h.2 with h2 | ⟨g, cap, cur, rfl, hb, hgb, rest⟩
 ·exact .inl h2
 ·have hlt := (h.lt g rfl).2
  exact .inr ⟨g, cap, cur, rfl, hb, (hg.block g hlt (fun e => hne g rfl e.symm)).trans hgb, rest⟩
open Go.RowKit
section
variable {w : World} {base e size n cap g : Nat} {xs : List Value}
theorem own_front (h : w.ownsRow base e size (.slice (some ⟨g, 0, none⟩) n cap) n xs) {m : Nat} (hm : m ≤ n) : w.ownsRow base e size (.slice (some ⟨g, 0, none⟩) m cap) m (xs.take (m * size)) := by
 have hle : m * size ≤ n * size := Nat.mul_le_mul_right _ hm
 refine ⟨by rw [List.length_take, h.1]; omega, ?_⟩
 rcases h.2 with ⟨h', _⟩ | ⟨g', cap', cur, h', hb, hg, hnc, hcm, hcs, htake⟩
 ·simp at h'
 ·simp only [Value.slice.injEq, Option.some.injEq, Addr.mk.injEq, and_true, true_and] at h'
  obtain ⟨rfl, rfl⟩ := h'
  refine .inr ⟨g, cap, cur, rfl, hb, hg, Nat.le_trans hm hnc, hcm, hcs, ?_⟩
  rw [← htake, List.take_take, Nat.min_eq_left hle]
theorem own_beyond (h : w.ownsRow base e size (.slice (some ⟨g, 0, none⟩) n cap) n xs) {j : Nat} (hj : n * size ≤ j) (u : Value) :
  (w.setCell ⟨g, j, none⟩ u).ownsRow base e size (.slice (some ⟨g, 0, none⟩) n cap) n xs ∧ w.grownBy (w.setCell ⟨g, j, none⟩ u) (some g) := by
 have := h.stored j u
 rw [List.set_eq_of_length_le (by rw [h.1]; exact hj)] at this
 exact this
theorem own_beyonds : ∀ (vs : List Value) (j : Nat) (w : World), w.ownsRow base e size (.slice (some ⟨g, 0, none⟩) n cap) n xs → n * size ≤ j →
  (w.setCells g j vs).ownsRow base e size (.slice (some ⟨g, 0, none⟩) n cap) n xs ∧ w.grownBy (w.setCells g j vs) (some g)
 | [], j, w, h, _ => ⟨h, gb_refl _ _⟩
 | v :: vs, j, w, h, hj => by
  obtain ⟨h1, h2⟩ := own_beyond h hj v
  obtain ⟨h3, h4⟩ := own_beyonds vs (j + 1) _ h1 (by omega)
  exact ⟨h3, gb_trans h2 h4⟩
theorem own_clear {P : Program} {t : TypeId} {z : Value} (h : w.ownsRow base e size (.slice (some ⟨g, 0, none⟩) n cap) n xs) {m : Nat} (hm : m < n) (ht : P.underlying t = some (.slice e)) (hv : ∀ w, (zeroValue e).run P w = .ok z w) (hz : z.cells.size = size) (h1 : ∀ u ∈ z.cells.toList, u.oneCell' = true) (c : Nat) :
  ∃ w', (∀ ty, (Builtin.clear_ #[t] ty #[.slice (some ⟨g, m * size, none⟩) (n - m) c]).run P w = .ok (.tuple #[]) w') ∧ w'.ownsRow base e size (.slice (some ⟨g, 0, none⟩) m cap) m (xs.take (m * size)) ∧ w.grownBy w' (some g) := by
 have hlen : (Builtin.zeroCells z.cells (n - m)).toList.length = (n - m) * size := by simp [Builtin.zeroCells, hz]
 have hrow : m * size + (n - m) * size = n * size := by rw [← Nat.add_mul]; congr 1; omega
 have hone : ∀ u ∈ (Builtin.zeroCells z.cells (n - m)).toList, u.oneCell' = true := by
  intro u hu
  unfold Builtin.zeroCells at hu
  rw [Array.toList_map, List.mem_map] at hu
  obtain ⟨i, hi, rfl⟩ := hu
  have hi : i < (n - m) * z.cells.size := by simpa using hi
  have hpos : 0 < z.cells.size := by
   rcases Nat.eq_zero_or_pos z.cells.size with h0 | h0
   ·rw [h0] at hi; omega
   ·exact h0
  have hlt : i % z.cells.size < z.cells.size := Nat.mod_lt _ hpos
  refine h1 _ ?_
  rw [getElem!_pos z.cells _ hlt]
  exact Array.getElem_mem_toList _
 have hst := run_storeCells_cells (P := P) g (m * size) (Builtin.zeroCells z.cells (n - m)).toList 0 w (fun j hj => by
   rw [hlen] at hj
   rw [Nat.add_zero, h.cellAt (m * size + j) (by omega)]
   have : m * size + j < xs.length := by rw [h.1]; omega
   simp [this]) (fun j _ => h.frozenAt _) hone
 rw [Nat.add_zero] at hst
 obtain ⟨r1, r2⟩ := own_beyonds (Builtin.zeroCells z.cells (n - m)).toList (m * size) w (own_front h (Nat.le_of_lt hm)) (Nat.le_refl _)
 refine ⟨_, fun ty => ?_, r1, r2⟩
 obtain ⟨k, hk⟩ : ∃ k, n - m = k + 1 := ⟨n - m - 1, by omega⟩
 rw [hk] at hst ⊢
 simp [Builtin.clear_, run_underlying ht, hv, hst]
end
theorem getI_of {α : Type} [Inhabited α] {l : List α} {i : Nat} {x : α} (h : l[i]? = some x) : l.toArray[i]! = x := by
 obtain ⟨hl, e⟩ := List.getElem?_eq_some_iff.1 h
 rw [getElem!_pos l.toArray i (by simpa using hl)]
 simpa using e
theorem getI_to {α : Type} [Inhabited α] (d : Array α) {i : Nat} (h : i < d.size) : d.toList[i]? = some d[i]! := by
 rw [Array.getElem?_toList, Array.getElem?_eq_getElem h, getElem!_pos d i h]
end Go.Proofs.YtkcgmnhjofoeiaaGreat
