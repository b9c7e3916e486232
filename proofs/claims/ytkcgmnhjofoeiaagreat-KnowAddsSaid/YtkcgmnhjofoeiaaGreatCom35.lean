import Derived.Test.YtkcgmnhjofoeiaaGreatCom34
import Derived.Test.YtkcgmnhjofoeiaaGreatCom18
import Derived.Test.YtkcgmnhjofoeiaaGreatCom4
import Derived.Test.YtkcgmnhjofoeiaaGreatCom8
import Derived.Test.YtkcgmnhjofoeiaaGreatCom9
import Derived.WalkMore
set_option maxRecDepth 100000
set_option linter.all false
set_option maxHeartbeats 12800000
namespace Go.Proofs.YtkcgmnhjofoeiaaGreat
open Go.RowKit
theorem TmAt.look1 {w : World} {bm n : Nat} {m : Tm.Fn} (h : TmAt w bm m n) {k : List UInt8} (hk : k.length ≤ 9223372036854775807) :
  (Instr.lookup 141 (.map (some bm)) (.string (mk k)) false).run Tryz.prog w = .ok (Tm.val m k) w := by
 obtain ⟨l, ht, -, h⟩ := h
 obtain ⟨v', ps, h1, h2⟩ := World.ownsMap.lookup h Tm.keyed Tryz.underlying141 (Tm.zero w) (zd := .held (.slice none 0 0)) (zp := []) rfl (Tm.key (k := mk k) (by rw [mk_len]; exact hk))
 rw [h1]
 rw [mk_data, Tm.datum_at ht] at h2
 unfold Tm.raw at h2
 have e := congrArg Prod.fst (Option.some.inj h2)
 unfold Tm.val
 cases hg : m k with
 | none => rw [hg] at e; have e : DataW.held v' = .held _ := e; injection e with e; rw [e]
 | some v => rw [hg] at e; have e : DataW.held v' = .held _ := e; injection e with e; rw [e]
theorem clone_rg {w : World} {F : Nat → Prop} {v : Value} {f : List Sz.Rg} (h : Rgs w F v f) (hl : f.length ≤ 1000000) :
  Calls Tryz.prog 126 #[v] w fun e w' => ∃ v', e = .returned v' ∧ RowsOwn 85 2 rgV w f v' w' := by
 obtain ⟨i0, hi0, hz0, hz1, hz2⟩ := info_parts rangeInfo
 have hb0 : Below w.heap.size w (w.alloc (.cells #[] 85)) := (Below.refl _ _).alloc (Nat.le_refl _) _
 have hr := h.below hb0
 have h0own : (w.alloc (.cells #[] 85)).ownsRow w.heap.size 85 2 (.slice (some ⟨w.heap.size, 0, none⟩) 0 0) 0 [] := World.ownsRow_made w #[] 0 (Nat.le_refl _) (by decide) rfl
 obtain ⟨A, cap, rfl, hcap, hat⟩ := h
 have q22 : ∀ (w : World) (a : Option Addr) (n c n' c' : Nat), (binOp .eql 82 (.slice a n c) (.slice none n' c')).run Tryz.prog w = .ok (.bool a.isNone) w := fun w a n c n' c' => Lib.run_eql_slice_nil w _ _ a n c n' c' Tryz.underlying82
 cases A with
 | none =>
  have h0 : f.length = 0 := Nat.eq_zero_of_not_pos (fun hp => by obtain ⟨b, o, e, -⟩ := hat hp; cases e)
  have hf : f = [] := List.eq_nil_of_length_eq_zero h0
  subst hf
  clear hr hat
  go_enter Tryz.func126, Tryz.ntmps126
  go_wp2_with fail
  go_ret
  exact ⟨_, rfl, RowsOwn.start _ _ _ w⟩
 | some ad =>
  clear hat
  go_enter Tryz.func126, Tryz.ntmps126
  go_wp2_with (at_builtin; refine wp_joins (f := rgV) (k := 2) rfl _ _ 82 rfl w.heap.size 85 i0 (.agg #[.int .i64 0, .int .i64 0]) 16 Tryz.underlying82 hi0 hz0 hz1 hz2 rfl (by decide) rfl rfl h0own hr (fun _ _ => rfl) (fun x _ => rg_one x) ?a1 ?a2 ?a3 ?_)
  case a1 => unfold maxLen; omega
  case a2 => omega
  case a3 => simp
  intro v2 w2 own2 hg2 _
  have F2 := Lib.hid (RowsOwn.front hg2 (by rw [Nat.zero_add, List.nil_append]; exact own2))
  clear own2 hg2 hr h0own
  go_wp2_with fail
  go_ret
  exact ⟨_, rfl, F2.out⟩
theorem cov_tell {w : World} {F : Nat → Prop} {bm B n : Nat} {m : Tm.Fn} {L : List Flt.Cl} (hm : TmAt w bm m n) (hB : w.cell? ⟨B, 0, none⟩ = some (.map (some bm))) (hBl : B < w.heap.size)
  (hv : ∀ q, Rgs w F (Tm.val m q) (Cov.own L q)) (ho : ∀ q, (Cov.own L q).length ≤ 202) (hb : ∀ c ∈ L, 0 ≤ c.lo ∧ c.lo ≤ c.hi ∧ c.hi ≤ 200) (p : List UInt8) (hp : p.length ≤ 100000) :
  Calls Tryz.prog 125 #[.string (mk p), .pointer (some ⟨B, 0, none⟩)] w fun e w' => ∃ v X, e = .returned v ∧ RowsOwn 85 2 rgV w X v w' ∧ Cov.Ups L p [] X := by
 obtain ⟨i0, hi0, hz0, hz1, hz2⟩ := info_parts rangeInfo
 have LK : Hid (∀ (W : World), Below w.heap.size w W → ∀ q : List UInt8, q.length ≤ 100000 → (Instr.lookup 141 (.map (some bm)) (.string (mk q)) false).run Tryz.prog W = .ok (Tm.val m q) W) := Lib.hid (fun W hW q hq => (hm.below hW).look1 (by omega))
 have CB : Hid (∀ (W : World), Below w.heap.size w W → W.cell? ⟨B, 0, none⟩ = some (.map (some bm))) := Lib.hid (fun W hW => (hW.cell (p := ⟨B, 0, none⟩) hBl).trans hB)
 have HV : Hid (∀ (W : World), Below w.heap.size w W → ∀ q, Rgs W F (Tm.val m q) (Cov.own L q)) := Lib.hid (fun W hW q => (hv q).below hW)
 have HO := Lib.hid ho
 have ST := Lib.hid (Cov.ups_start ho hb p)
 have UP : Hid (∀ {q : List UInt8} {X : List Sz.Rg}, q ≠ [] → Cov.Ups L p q X → Cov.Ups L p (Pth.parent q) (X ++ Cov.own L (Pth.parent q))) := Lib.hid (fun hq hX => Cov.ups_step ho hb hq hX)
 have PA := Lib.hid (fun (q : List UInt8) (hq : q.length ≤ 100000) (W : World) => path_ok.parent q W hq)
 have hlook := LK.out w (Below.refl _ _) p hp
 have CL := Lib.hid (clone_rg (hv p) (by have := ho p; omega))
 have HPL := Lib.hid hp
 clear hm hv hBl ho hb
 obtain ⟨ps, hps⟩ : ∃ ps, ps = mk p := ⟨_, rfl⟩
 rw [← hps] at hlook ⊢
 have Hps := Lib.hid hps
 clear hps
 generalize hx : Tm.val m p = x at hlook CL
 clear hx
 go_enter Tryz.func125, Tryz.ntmps125
 go_wp2_with fail
 refine (CL.out).mono ?_
 rintro e w1 ⟨v1, rfl, h1⟩
 have H1 := Lib.hid h1
 clear h1 hlook hB hp
 go_wp2_with fail
 go_loopw [0, 4] (fun pv l wr => ∃ (q : List UInt8) (X : List Sz.Rg), q.length ≤ 100000 ∧ pv = .string (mk q) ∧ RowsOwn 85 2 rgV w X l wr ∧ Hid (Cov.Ups L p q X)) (fun pv _ _ => strLen pv)
 case atStart => exact ⟨p, Cov.own L p, HPL.out, by rw [Hps.out], H1.out, ST⟩
 case round =>
  obtain ⟨q, X, hq, rfl, hX, hU⟩ := hrel
  have HX := Lib.hid hX
  have ea := str_nil q
  have ia := str_empty q
  by_cases h0 : q = []
  ·have hfin : Hid (Cov.Ups L p [] X) := Lib.hid (by have := hU.out; rwa [h0] at this)
   rw [decide_eq_true h0] at ea ia
   clear h0 hX
   generalize mk q = qs at *
   go_wp2_with fail
   go_ret
   exact ⟨_, X, rfl, HX.out, hfin.out⟩
  ·have hU2 := Lib.hid (UP.out h0 hU.out)
   have hsh := Pth.parent_short h0
   have hpl : (Pth.parent q).length ≤ 100000 := by omega
   have PQ := Lib.hid (PA.out q hq)
   have hms : Hid (strLen (.string (mk (Pth.parent q))) < strLen (.string (mk q))) := Lib.hid (by show (mk (Pth.parent q)).size < (mk q).size; rw [mk_len, mk_len]; exact hsh)
   have hXl : Hid (X.length ≤ 20200202) := Lib.hid (by have := hU.out.2.1; have := HPL.out; omega)
   rw [decide_eq_false h0] at ea ia
   have LK2 := Lib.hid (fun W hW => LK.out W hW (Pth.parent q) hpl)
   have HV2 := Lib.hid (fun W hW => HV.out W hW (Pth.parent q))
   have HO2 := Lib.hid (HO.out (Pth.parent q))
   have Hpl : Hid ((Pth.parent q).length ≤ 100000) := Lib.hid hpl
   generalize hpq : Pth.parent q = pq at *
   clear h0 hsh hpq hpl hX
   obtain ⟨qs, hqs⟩ : ∃ qs, qs = mk q := ⟨_, rfl⟩
   rw [← hqs] at ea ia PQ hms ⊢
   clear hqs
   go_wp2_with fail
   refine (PQ.out _).mono ?_
   rintro e w2 ⟨rfl, hb2⟩
   have HX2 := Lib.hid (HX.out.below hb2)
   have hB := CB.out _ HX2.out.2
   have hlook := LK2.out _ HX2.out.2
   have hown := HX2.out.1
   have hr := HV2.out _ HX2.out.2
   have hsz := HX2.out.2.size
   clear hb2
   generalize hx : Tm.val m pq = x at hlook hr
   clear hx
   obtain ⟨qs2, hqs2⟩ : ∃ qs, qs = mk pq := ⟨_, rfl⟩
   rw [← hqs2] at hlook hms ⊢
   have HQ2 := Lib.hid hqs2
   clear hqs2
   go_wp2_with (at_builtin; refine wp_joins (f := rgV) (k := 2) rfl _ _ 82 rfl w.heap.size 85 i0 (.agg #[.int .i64 0, .int .i64 0]) 16 Tryz.underlying82 hi0 hz0 hz1 hz2 rfl (by decide) rfl rfl hown hr (fun _ _ => rfl) (fun x _ => rg_one x) ?c3 ?c4 hsz ?_)
   case c3 => have := hXl.out; have := HO2.out; unfold maxLen; first | omega | (simp <;> omega)
   case c4 => have := hXl.out; have := HO2.out; first | omega | (simp <;> omega)
   intro v3 w3 own3 hg3 _
   have H3 := Lib.hid (HX2.out.rest hg3 own3)
   clear own3 hg3 hown hr hB hlook
   go_wp2_with fail
   exact ⟨⟨pq, X ++ Cov.own L pq, Hpl.out, by rw [HQ2.out], H3.out, hU2⟩, hms.out⟩
open Go.RowKit
structure Grp (base : Nat) (w : World) (m : Tm.Fn) (T : List Flt.Cl) : Prop where
 own : ∀ q, w.ownsRow base 85 2 (Tm.val m q) (Cov.own T q).length ((Cov.own T q).flatMap rgV)
 apart : ∀ q q', q ≠ q' → ∀ g, (Tm.val m q).ownBlock = some g → (Tm.val m q').ownBlock ≠ some g
theorem Tm.val_set (m : Tm.Fn) (p q : List UInt8) (v : Value) : Tm.val (Tm.set m p v) q = if q = p then v else Tm.val m q := by
 unfold Tm.val Tm.set
 by_cases h : q = p
 ·rw [if_pos h, if_pos h]
 ·rw [if_neg h, if_neg h]
section
variable {base : Nat} {w w1 w2 : World} {m : Tm.Fn} {T : List Flt.Cl}
theorem Grp.start (base : Nat) (w : World) : Grp base w (fun _ => none) [] := ⟨fun q => World.ownsRow_nil _ _ _ _, fun q q' _ g h => by cases h⟩
theorem Grp.below (h : Grp base w m T) (k : Below w.heap.size w w1) : Grp base w1 m T := ⟨fun q => row_below (h.own q) k, h.apart⟩
theorem Grp.left (h : Grp base w m T) {b : Nat} (k : w.grownBy w1 (some b)) (hb : b < base) : Grp base w1 m T :=
 ⟨fun q => own_left (h.own q) k (fun g hg e => by injection e with e; have := ((h.own q).lt g hg).1; omega), h.apart⟩
theorem Grp.put (h : Grp base w m T) {p : List UInt8} {lo hi : Int} {v : Value} (ho : w1.ownsRow base 85 2 v ((Cov.own T p).length + 1) ((Cov.own T p).flatMap rgV ++ rgV (lo, hi))) (hg : w.grownBy w1 (Tm.val m p).ownBlock) (hn : Near w (Tm.val m p) v) : Grp base w1 (Tm.set m p v) (T ++ [⟨p, lo, hi⟩]) := by
 constructor
 ·intro q
  rw [Tm.val_set, Cov.own_more]
  by_cases e : q = p
  ·subst e
   rw [if_pos rfl, if_pos rfl, List.length_append, List.flatMap_append]
   simpa [Flt.rg] using ho
  ·rw [if_neg e, if_neg (fun h => e h.symm), List.append_nil]
   exact own_left (h.own q) hg (fun g hq e2 => h.apart q p e g hq e2)
 ·intro q q' hne g hq hq'
  rw [Tm.val_set] at hq hq'
  by_cases e : q = p
  ·rw [if_pos e] at hq
   by_cases e' : q' = p
   ·exact hne (e.trans e'.symm)
   ·rw [if_neg e'] at hq'
    rcases hn with hn | hn
    ·rw [hn] at hq
     exact h.apart q' p e' g hq' hq
    ·have h1 := hn g hq
     have h2 := ((h.own q').lt g hq').2
     omega
  ·rw [if_neg e] at hq
   by_cases e' : q' = p
   ·rw [if_pos e'] at hq'
    rcases hn with hn | hn
    ·rw [hn] at hq'
     exact h.apart q p e g hq hq'
    ·have h1 := hn g hq'
     have h2 := ((h.own q).lt g hq).2
     omega
   ·rw [if_neg e'] at hq'
    exact h.apart q q' hne g hq hq'
theorem Grp.rows (h : Grp base w m T) (q : List UInt8) : Rgs w (fun i => base ≤ i) (Tm.val m q) (Cov.own T q) := Rws.ofOwn (h.own q) rfl (fun _ _ => rfl) (fun _ _ h1 _ => h1)
end
open Go.RowKit
theorem cov_sizer (Z : FilterOk) {w : World} {F : Nat → Prop} {v : Value} {f : List Flt.Cl} (h : Cls w F v f) (hl : f.length ≤ 100000) (rf : ∀ c ∈ f, Flt.Right c) (bf : ∀ c ∈ f, Flt.Bd c) :
  Calls Tryz.prog 103 #[v] w fun e w' => ∃ (B bm nn : Nat) (m : Tm.Fn), e = .returned (.func (.func 125) #[] #[.pointer (some ⟨B, 0, none⟩)]) ∧ w'.cell? ⟨B, 0, none⟩ = some (.map (some bm)) ∧ B < w'.heap.size ∧ TmAt w' bm m nn ∧
   (∀ q, Rgs w' (fun i => w.heap.size ≤ i) (Tm.val m q) (Cov.own (Flt.norm f) q)) ∧ Below w.heap.size w w' := by
 obtain ⟨i0, hi0, hz0, hzz1, hz2⟩ := info_parts rangeInfo
 have hbM : Below w.heap.size w (w.alloc (.map #[] 0)) := (Below.refl _ _).alloc (Nat.le_refl _) _
 have hb0 : Below w.heap.size w ((w.alloc (.map #[] 0)).alloc (.cells #[.map (some w.heap.size)] 141)) := hbM.alloc hbM.size _
 have hAS := Z.norm (h.below hb0) hl rf bf
 have hz0' : ((w.alloc (.map #[] 0)).alloc (.cells #[.map (some w.heap.size)] 141)).heap.size = w.heap.size + 2 := by simp
 have hM0 : TmAt ((w.alloc (.map #[] 0)).alloc (.cells #[.map (some w.heap.size)] 141)) w.heap.size (fun _ => none) 0 := (TmAt.made w).below ((Below.refl _ _).alloc (Nat.le_refl _) _)
 have hC0 : ((w.alloc (.map #[] 0)).alloc (.cells #[.map (some w.heap.size)] 141)).cell? ⟨w.heap.size + 1, 0, none⟩ = some (.map (some w.heap.size)) := by
  have := (Row.made (w.alloc (.map #[] 0)) 141 #[.map (some w.heap.size)]).at 0
  have e : (w.alloc (.map #[] 0)).heap.size = w.heap.size + 1 := by simp
  rw [e] at this
  exact this
 have AS := Lib.hid hAS
 have HM0 := Lib.hid hM0
 have HC0 := Lib.hid hC0
 have HB0 := Lib.hid hb0
 have HZ0 := Lib.hid hz0'
 have hnl := Flt.norm_len f
 have HSl : Hid ((Flt.norm f).length ≤ 20200000) := Lib.hid (by omega)
 have HPS : Hid (∀ c ∈ Flt.norm f, c.pre.length ≤ 100000) := Lib.hid (fun c hc => by obtain ⟨d, hd, e⟩ := Flt.norm_pre hc; rw [← e]; exact (bf d hd).1)
 clear hAS hM0 hC0 hz0' hbM hb0 h hnl rf bf
 generalize Flt.norm f = L at *
 have hmk := @run_makeMap Tryz.prog
 go_enter Tryz.func103, Tryz.ntmps103
 go_wp2_with fail
 refine (AS.out).mono ?_
 rintro e w1 ⟨sv, rfl, hS, hbS⟩
 have hz1 := hbS.size
 rw [HZ0.out] at hz1
 have HZ1 := Lib.hid hz1
 have HM1 := Lib.hid (HM0.out.below hbS)
 have HC1 : Hid (w1.cell? ⟨w.heap.size + 1, 0, none⟩ = some (.map (some w.heap.size))) := Lib.hid ((hbS.cell (p := ⟨w.heap.size + 1, 0, none⟩) (by rw [HZ0.out]; show w.heap.size + 1 < w.heap.size + 2; omega)).trans HC0.out)
 have HB1 : Hid (Below w.heap.size w w1) := Lib.hid (HB0.out.trans (hbS.mono HB0.out.size))
 have hsd : Hid (∀ i, NewIn ((w.alloc (.map #[] 0)).alloc (.cells #[.map (some w.heap.size)] 141)) w1 i → ¬ i = w.heap.size) := Lib.hid (fun i hi e => by have := hi.1; rw [HZ0.out] at this; omega)
 have HSr := Lib.hid hS
 clear hS hbS hz1 HM0 HC0 HB0 AS
 obtain ⟨SA, sc, rfl, hsc⟩ := HSr.out.parts
 have hSl' : (L.length : Int) ≤ 20200000 := by have := HSl.out; omega
 go_wp2_with fail
 go_loopw [5, 10] (fun _ i wr => ∃ (n : Nat) (m : Tm.Fn), n ≤ L.length ∧ i = .int .i64 (n : Int) ∧ Hid (TmAt wr w.heap.size m n) ∧ Hid (Grp w1.heap.size wr m (L.take n)) ∧ Kept (fun i => i = w.heap.size) w1 wr) (fun _ i _ => L.length - (intOf i).toNat)
 case atStart => exact ⟨0, fun _ => none, Nat.zero_le _, rfl, HM1, Lib.hid (by rw [List.take_zero]; exact Grp.start _ _), Kept.refl _ _⟩
 case round =>
  obtain ⟨n, m, hn, rfl, hm, hgrp, hkept⟩ := hrel
  obtain ⟨w5, rfl⟩ : ∃ W : World, W = wr := ⟨_, rfl⟩
  have hz5 : w1.heap.size ≤ w5.heap.size := hkept.size
  have hcB : w5.cell? ⟨w.heap.size + 1, 0, none⟩ = some (.map (some w.heap.size)) := (hkept.cell (p := ⟨w.heap.size + 1, 0, none⟩) (by have := HZ1.out; show w.heap.size + 1 < w1.heap.size; omega) (by show ¬ (w.heap.size + 1 = w.heap.size); omega)).trans HC1.out
  by_cases hlt : n < L.length
  ·obtain ⟨b, o, sc', e, -, -, hb⟩ := HSr.out.block (by omega)
   injection e with e1 e2 e3
   subst e1 e3
   clear e2
   obtain ⟨c, hc⟩ : ∃ c, L[n]? = some c := ⟨_, List.getElem?_eq_getElem hlt⟩
   obtain ⟨c0, c1, c2⟩ := Cls.at (HSr.out.kept hkept hsd.out) hc
   have hbc := HPS.out c (List.mem_of_getElem? hc)
   have htk : Hid (L.take (n + 1) = L.take n ++ [c]) := Lib.hid (by
    obtain ⟨h1, h2⟩ := List.getElem?_eq_some_iff.1 hc
    rw [List.take_succ_eq_append_getElem h1, h2])
   have hn0 : (0 : Int) ≤ (n : Int) := by omega
   have hn1 : (n : Int) < (L.length : Int) := by omega
   have hlen : Hid ((Cov.own (L.take n) c.pre).length ≤ 20200000) := Lib.hid (by have h1 := Cov.own_len (L.take n) c.pre; have h2 := HSl.out; rw [List.length_take] at h1; omega)
   have HnS : Hid (n ≤ 20200000) := Lib.hid (by have := HSl.out; omega)
   have hba : Below w5.heap.size w5 (w5.alloc (.cells #[.string (mk c.pre), .int .i64 c.lo, .int .i64 c.hi] 87)) := (Below.refl _ _).alloc (Nat.le_refl _) _
   have HX := Lib.hid (Row.made w5 87 #[.string (mk c.pre), .int .i64 c.lo, .int .i64 c.hi])
   have hzx : w5.heap.size < (w5.alloc (.cells #[.string (mk c.pre), .int .i64 c.lo, .int .i64 c.hi] 87)).heap.size := by simp
   have Hkept := Lib.hid hkept
   have Hz5 := Lib.hid hz5
   have HcB := Lib.hid hcB
   have Hpp := Lib.hid hbc
   have Hgo0 : Hid (∀ q g, (Tm.val m q).ownBlock = some g → g < w5.heap.size) := Lib.hid (fun q g hg => ((hgrp.out.own q).lt g hg).2)
   have HTM := Lib.hid (hm.out.below hba)
   have HGR := Lib.hid (hgrp.out.below hba)
   have Hba := Lib.hid hba
   have Hzx := Lib.hid hzx
   have HC2 : Hid ((w5.alloc (.cells #[.string (mk c.pre), .int .i64 c.lo, .int .i64 c.hi] 87)).cell? ⟨w.heap.size + 1, 0, none⟩ = some (.map (some w.heap.size))) := Lib.hid ((hba.cell (p := ⟨w.heap.size + 1, 0, none⟩) (by have := HZ1.out; show w.heap.size + 1 < w5.heap.size; omega)).trans hcB)
   clear hkept hba hbc hc hcB hz5 hzx hm hgrp
   obtain ⟨p, lo, hi⟩ := c
   simp only at c0 c1 c2 htk HX Hba Hzx Hpp HTM HGR HC2 hlen
   go_wp2_with fail
   generalize w5.alloc (.cells #[.string (mk p), .int .i64 lo, .int .i64 hi] 87) = wx at *
   have hx0 := HX.out.at 0
   have hx1 := HX.out.at 1
   have hx2 := HX.out.at 2
   have hxd : wx.drew.cell? ⟨w.heap.size + 1, 0, none⟩ = some (.map (some w.heap.size)) ∧ wx.drew.cell? ⟨w5.heap.size, 0, none⟩ = some (.string (mk p)) ∧ wx.drew.cell? ⟨w5.heap.size, 1, none⟩ = some (.int .i64 lo) ∧ wx.drew.cell? ⟨w5.heap.size, 2, none⟩ = some (.int .i64 hi) ∧ TmAt wx.drew w.heap.size m n := ⟨HC2.out, hx0, hx1, hx2, HTM.out.below ((Below.refl _ _).drew)⟩
   have HGD := Lib.hid (HGR.out.below ((Below.refl _ _).drew))
   have HzD : Hid (w5.heap.size < wx.drew.heap.size) := Lib.hid Hzx.out
   have HKD : Hid (Kept (fun i => i = w.heap.size) w1 wx.drew) := Lib.hid ((Hkept.out.trans (Kept.ofBelow Hba.out (fun i => i = w.heap.size)) (fun _ _ h => h)).drew)
   have HXD := Lib.hid hxd
   have hlook : Hid (∀ W, TmAt W w.heap.size m n → (Instr.lookup 141 (.map (some w.heap.size)) (.string (mk p)) false).run Tryz.prog W = .ok (Tm.val m p) W) := Lib.hid (fun W hW => hW.look1 (by have := Hpp.out; omega))
   generalize hv0 : Tm.val m p = v0 at hlook
   have Hgo : Hid (∀ g, v0.ownBlock = some g → g < w5.heap.size) := Lib.hid (fun g hg => Hgo0.out p g (by rw [hv0]; exact hg))
   have Hv0 := Lib.hid hv0
   clear hv0 hx0 hx1 hx2 hxd c0 c1 c2 HX HTM HGR HC2
   refine wp_region_tail (n := 11) (S := (fun w' : World => w'.cell? ⟨w.heap.size + 1, 0, none⟩ = some (.map (some w.heap.size)) ∧ w'.cell? ⟨w5.heap.size, 0, none⟩ = some (.string (mk p)) ∧ w'.cell? ⟨w5.heap.size, 1, none⟩ = some (.int .i64 lo) ∧ w'.cell? ⟨w5.heap.size, 2, none⟩ = some (.int .i64 hi) ∧ TmAt w' w.heap.size m n)) (by kernel_rfl) (by kernel_rfl) (by rfl) HXD.out (fun hHeld => ?_)
   generalize wx.drew = wd at *
   refine wpAnyH_tk (i := 0) (v := ?_) rfl (Or.inl ⟨by rfl, (by intro w hSw; have d0 := hSw.1; have d1 := hSw.2.1; have d2 := hSw.2.2.1; have d3 := hSw.2.2.2.1; have d4 := hlook.out _ hSw.2.2.2.2; go_simp; try with_reducible rfl)⟩) (by assumption) ?_
   simp only [zz]
   refine wpAnyH_td (i := 1) rfl ?_
   simp only [zz]
   refine wpAnyH_tk (i := 2) (v := ?_) rfl (Or.inl ⟨by rfl, (by intro w hSw; have d0 := hSw.1; have d1 := hSw.2.1; have d2 := hSw.2.2.1; have d3 := hSw.2.2.2.1; have d4 := hlook.out _ hSw.2.2.2.2; go_simp; try with_reducible rfl)⟩) (by assumption) ?_
   simp only [zz]
   refine wpAnyH_tk (i := 3) (v := ?_) rfl (Or.inl ⟨by rfl, (by intro w hSw; have d0 := hSw.1; have d1 := hSw.2.1; have d2 := hSw.2.2.1; have d3 := hSw.2.2.2.1; have d4 := hlook.out _ hSw.2.2.2.2; go_simp; try with_reducible rfl)⟩) (by assumption) ?_
   simp only [zz]
   refine wpAnyH_td (i := 4) rfl ?_
   simp only [zz]
   refine wpAnyH_tk (i := 5) (v := ?_) rfl (Or.inl ⟨by rfl, (by intro w hSw; have d0 := hSw.1; have d1 := hSw.2.1; have d2 := hSw.2.2.1; have d3 := hSw.2.2.2.1; have d4 := hlook.out _ hSw.2.2.2.2; go_simp; try with_reducible rfl)⟩) (by assumption) ?_
   simp only [zz]
   refine wpAnyH_tk (i := 6) (v := ?_) rfl (Or.inl ⟨by rfl, (by intro w hSw; have d0 := hSw.1; have d1 := hSw.2.1; have d2 := hSw.2.2.1; have d3 := hSw.2.2.2.1; have d4 := hlook.out _ hSw.2.2.2.2; go_simp; try with_reducible rfl)⟩) (by assumption) ?_
   simp only [zz]
   refine wpAnyH_td (i := 7) rfl ?_
   simp only [zz]
   refine wpAnyH_tk (i := 8) (v := ?_) rfl (Or.inl ⟨by rfl, (by intro w hSw; have d0 := hSw.1; have d1 := hSw.2.1; have d2 := hSw.2.2.1; have d3 := hSw.2.2.2.1; have d4 := hlook.out _ hSw.2.2.2.2; go_simp; try with_reducible rfl)⟩) (by assumption) ?_
   simp only [zz]
   refine wpAnyH_ready (rs := [9]) (by kernel_rfl) (by simp) ?_
   refine (AllReadyH.cons rfl (fun K hK => ?_) AllReadyH.nil)
   have hb9 : Below wd.heap.size wd (wd.alloc (.cells #[.int .i64 lo, .int .i64 hi] 85)) := (Below.refl _ _).alloc (Nat.le_refl _) _
   have HM9 := Lib.hid (rg_made wd 85 lo hi)
   have HG9 := Lib.hid (HGD.out.below hb9)
   have hz9 := hb9.size
   have hS9 := (⟨(hb9.cell (p := ⟨w.heap.size + 1, 0, none⟩) (by have := HZ1.out; have := Hz5.out; have := HzD.out; show w.heap.size + 1 < wd.heap.size; omega)).trans hHeld.1, (hb9.cell (p := ⟨w5.heap.size, 0, none⟩) HzD.out).trans hHeld.2.1, (hb9.cell (p := ⟨w5.heap.size, 1, none⟩) HzD.out).trans hHeld.2.2.1, (hb9.cell (p := ⟨w5.heap.size, 2, none⟩) HzD.out).trans hHeld.2.2.2.1, hHeld.2.2.2.2.below hb9⟩ : _ ∧ _ ∧ _ ∧ _ ∧ _)
   have HK9 := Lib.hid (HKD.out.trans (Kept.ofBelow hb9 (fun i => i = w.heap.size)) (fun _ _ h => h))
   have Hz9 : Hid (w5.heap.size < (wd.alloc (.cells #[.int .i64 lo, .int .i64 hi] 85)).heap.size) := Lib.hid (by have := HzD.out; omega)
   go_simp
   generalize wd.alloc (.cells #[.int .i64 lo, .int .i64 hi] 85) = we at *
   clear hb9 hz9
   refine hK.out _ _ hS9 (fun hHeld => ?_)
   clear hS9
   clear hK K
   refine wpAnyH_ready (rs := [10]) (by kernel_rfl) (by simp) ?_
   refine (AllReadyH.cons rfl (fun K hK => ?_) AllReadyH.nil)
   have hown := HG9.out.own p
   rw [Hv0.out] at hown
   have hbase : w1.heap.size ≤ we.heap.size := HK9.out.size
   refine step_near rfl (.tmp 20) (.tmp 23) 82 (by rfl) w1.heap.size 85 i0 (.agg #[.int .i64 0, .int .i64 0]) 16 Tryz.underlying82 hi0 hz0 hzz1 hz2 rfl (by decide) (by rfl) (by rfl) hown HM9.out (fun _ _ => rfl) (fun x _ => rg_one x) ?a1 ?a2 hbase ?_
   case a1 => (have := hlen.out; unfold maxLen; first | omega | (simp <;> omega))
   case a2 => (have := hlen.out; first | omega | (simp <;> omega))
   intro v9 w9 own9 hg9 hn9
   have hrow : ∀ g, v0.ownBlock = some g → w1.heap.size ≤ g ∧ g < we.heap.size := fun g hg => hown.lt g hg
   have hrow5 : ∀ g, v0.ownBlock = some g → g ≠ w5.heap.size := fun g hg => by have h1 := Hgo.out g hg; omega
   have kk := Kept.ofGrown (F := fun i => v0.ownBlock = some i) hg9 (fun i e => e)
   have hS9 := (⟨(kk.cell (p := ⟨w.heap.size + 1, 0, none⟩) (by have := HZ1.out; have := Hz5.out; have := Hz9.out; show w.heap.size + 1 < we.heap.size; omega) (fun e => by have h9 : w1.heap.size ≤ w.heap.size + 1 := (hrow _ e).1; have := HZ1.out; omega)).trans hHeld.1, (kk.cell (p := ⟨w5.heap.size, 0, none⟩) Hz9.out (fun e => hrow5 _ e rfl)).trans hHeld.2.1, (kk.cell (p := ⟨w5.heap.size, 1, none⟩) Hz9.out (fun e => hrow5 _ e rfl)).trans hHeld.2.2.1, (kk.cell (p := ⟨w5.heap.size, 2, none⟩) Hz9.out (fun e => hrow5 _ e rfl)).trans hHeld.2.2.2.1, hHeld.2.2.2.2.kept kk (fun e => by have := (hrow _ e).1; have := HZ1.out; omega)⟩ : _ ∧ _ ∧ _ ∧ _ ∧ _)
   have HG10 := Lib.hid (HG9.out.put (p := p) (lo := lo) (hi := hi) (v := v9) (by simpa using own9) (by rw [Hv0.out]; exact hg9) (by rw [Hv0.out]; exact hn9))
   have HK10 := Lib.hid (HK9.out.trans kk (fun i hi e => by have := (hrow _ e).1; omega))
   have HT10 := Lib.hid hS9.2.2.2.2
   clear own9 hg9 hn9 kk hrow hrow5 hown hbase
   refine hK.out _ _ hS9 (fun hHeld => ?_)
   clear hS9
   clear hK K
   refine wpAnyH_done (by kernel_rfl) ?_ _
   refine wpAny_of_held (S := fun _ => True) _ _ _ _ ?_
   have hHeld : True := trivial
   refine wpAnyH_ready (rs := [11]) (by kernel_rfl) (by simp) ?_
   refine AllReadyH.cons rfl (fun K hK => ?_) AllReadyH.nil
   obtain ⟨w11, hup, hm11, hg11⟩ := HT10.out.put (by have := HnS.out; omega) (k := p) (by have := Hpp.out; omega) v9
   have HM11 := Lib.hid hm11
   have HG11 := Lib.hid (HG10.out.left hg11 (by have := HZ1.out; omega))
   have HK11 := Lib.hid (HK10.out.trans (Kept.ofGrown (F := fun i => i = w.heap.size) hg11 (fun i e => by injection e with e; exact e.symm)) (fun _ _ h => h))
   clear hm11 hg11
   go_simp
   refine hK.out _ _ trivial (fun hHeld => ?_)
   clear hK K
   refine wpAnyH_done (by kernel_rfl) ?_ _
   clear hHeld
   go_wp2_with fail
   exact ⟨⟨n + 1, _, by omega, by go_num, HM11, by rw [htk.out]; exact HG11, HK11.out⟩, by show L.length - ((n : Int) + 1).toNat < L.length - (n : Int).toNat; omega⟩
  ·obtain rfl : n = L.length := by omega
   rw [List.take_length] at hgrp
   have Hrows := Lib.hid (fun q => (hgrp.out.rows q).mono (G := fun i => w.heap.size ≤ i) (fun i hi => Nat.le_trans (HB1.out.size) hi))
   have Hm := Lib.hid hm.out
   have HcB := Lib.hid hcB
   have Hz : Hid (w.heap.size + 1 < w5.heap.size) := Lib.hid (by have := HZ1.out; omega)
   have Hfin : Hid (Below w.heap.size w w5) := Lib.hid (HB1.out.trans (hkept.below HB1.out.size (fun i e => by omega)))
   clear hgrp hm hcB hkept
   go_wp2_with fail
   go_ret
   exact ⟨w.heap.size + 1, w.heap.size, _, m, rfl, HcB.out, Hz.out, Hm.out, Hrows.out, Hfin.out⟩
end Go.Proofs.YtkcgmnhjofoeiaaGreat
