import Derived.Test.YtpafpegcodempaaGreatCom6
import Derived.Test.YtpafpegcodempaaGreatCom3
import Derived.Test.YtpafpegcodempaaGreatCom13
import Derived.Test.YtpafpegcodempaaGreatCom18
import Derived.Test.YtpafpegcodempaaGreatCom9
import Derived.Test.YtpafpegcodempaaGreatCom19
import Derived.Test.YtpafpegcodempaaGreatCom4
import Derived.StringKeys
import Derived.Maps.OwnSet
import Derived.WalkMore
set_option maxRecDepth 100000
set_option linter.all false
set_option maxHeartbeats 12800000
namespace Go.Proofs.YtpafpegcodempaaGreat
open Go.RowKit
namespace Tm
def raw (v : Value) : Option (DataW Value × List MemPlace) := some (.held v, [])
abbrev Pr := List UInt8 × Value
abbrev Fn := List UInt8 → Option Value
def ent (p : Pr) : Lit × DataW Value := (.string p.1, .held p.2)
def datum (l : List Pr) : DataW Value := .map (l.map ent)
theorem same (a b : List UInt8) : Lit.sameKey (.string a) (.string b) = decide (a = b) := by
 show (a == b) = _
 rw [Bool.eq_iff_iff]; simp
def Tells (l : List Pr) (m : Fn) : Prop := ∀ k, (l.find? fun p => decide (p.1 = k)) = (m k).map fun v => (k, v)
def insP (x : Pr) : List Pr → List Pr
 | [] => [x]
 | y :: r => if bytesBefore x.1 y.1 = true then x :: y :: r else y :: insP x r
theorem insert_map (x : Pr) : ∀ l : List Pr, DataW.insert (ent x) (l.map ent) = (insP x l).map ent
 | [] => rfl
 | y :: l => by
  rw [List.map_cons]
  unfold DataW.insert insP
  have e : (ent x).1.before (ent y).1 = bytesBefore x.1 y.1 := rfl
  rw [e, insert_map x l]
  split <;> rfl
theorem insP_len (x : Pr) : ∀ l : List Pr, (insP x l).length = l.length + 1
 | [] => rfl
 | y :: l => by
  unfold insP
  split
  ·rfl
  ·rw [List.length_cons, insP_len x l, List.length_cons]
theorem insP_find (x : Pr) (q : List UInt8) : ∀ l : List Pr, (∀ p ∈ l, p.1 ≠ x.1) → (insP x l).find? (fun p => decide (p.1 = q)) = if q = x.1 then some x else l.find? fun p => decide (p.1 = q)
 | [], _ => by
  unfold insP
  rw [List.find?_cons]
  by_cases h : q = x.1
  ·rw [if_pos h]; simp [h]
  ·rw [if_neg h]
   have : decide (x.1 = q) = false := decide_eq_false (fun e => h e.symm)
   rw [this]
 | y :: l, hl => by
  have hy := hl y (by simp)
  have ih := insP_find x q l (fun p hp => hl p (List.mem_cons_of_mem _ hp))
  unfold insP
  split
  ·rw [List.find?_cons]
   by_cases h : q = x.1
   ·rw [if_pos h]; simp [h]
   ·rw [if_neg h]
    have : decide (x.1 = q) = false := decide_eq_false (fun e => h e.symm)
    rw [this]
  ·rw [List.find?_cons, ih]
   by_cases h : q = x.1
   ·rw [if_pos h, if_pos h]
    have : decide (y.1 = q) = false := decide_eq_false (fun e => hy (by rw [e, h]))
    rw [this]
   ·rw [if_neg h, if_neg h, List.find?_cons]
def set (m : Fn) (k : List UInt8) (v : Value) : Fn := fun q => if q = k then some v else m q
theorem filter_ent (l : List Pr) (k : List UInt8) : (l.map ent).filter (fun p => !p.1.sameKey (.string k)) = (l.filter fun p => decide (p.1 ≠ k)).map ent := by
 rw [List.filter_map]
 congr 1
 apply List.filter_congr
 intro x _
 show (!(Lit.sameKey (.string x.1) (.string k))) = _
 rw [same, decide_not]
theorem find_filter (l : List Pr) (k q : List UInt8) (h : q ≠ k) : (l.filter fun p => decide (p.1 ≠ k)).find? (fun p => decide (p.1 = q)) = l.find? fun p => decide (p.1 = q) := by
 rw [List.find?_filter]
 congr 1
 funext p
 by_cases e : p.1 = q
 ·simp [e, h]
 ·simp [e]
theorem Tells.put {l : List Pr} {m : Fn} (h : Tells l m) (k : List UInt8) (v : Value) : Tells (insP (k, v) (l.filter fun p => decide (p.1 ≠ k))) (set m k v) := by
 intro q
 rw [insP_find _ _ _ (fun p hp => by simpa using (List.mem_filter.1 hp).2)]
 unfold set
 by_cases e : q = k
 ·subst e
  simp
 ·rw [if_neg e, if_neg e, find_filter _ _ _ e]
  exact h q
theorem datum_put (l : List Pr) (k : List UInt8) (v : Value) : (datum l).put (.string k) (.held v) = datum (insP (k, v) (l.filter fun p => decide (p.1 ≠ k))) := by
 show DataW.map (DataW.insert (ent (k, v)) ((l.map ent).filter fun p => !p.1.sameKey (.string k))) = _
 rw [filter_ent, insert_map]
 rfl
theorem datum_at {l : List Pr} {m : Fn} (h : Tells l m) (k : List UInt8) (z : DataW Value) : (datum l).atKey (.string k) z = (match m k with | some v => .held v | none => z) := by
 have e : (l.map ent).find? (fun p => p.1.sameKey (.string k)) = (l.find? fun p => decide (p.1 = k)).map ent := by
  rw [List.find?_map]
  congr 2
  funext x
  exact same x.1 k
 unfold datum DataW.atKey
 simp only [e]
 rw [h k]
 cases m k <;> rfl
theorem datum_has {l : List Pr} {m : Fn} (h : Tells l m) (k : List UInt8) : Maps.has (datum l) (.string k) = (m k).isSome := by
 have h1 : (m k).isSome = (l.find? fun p => decide (p.1 = k)).isSome := by rw [h k]; cases m k <;> rfl
 rw [h1]
 unfold datum
 rw [Maps.has_eq, List.any_map]
 rw [Bool.eq_iff_iff, List.any_eq_true, List.find?_isSome]
 constructor
 ·rintro ⟨x, hx, h⟩
  have h : (Lit.sameKey (.string x.1) (.string k)) = true := h
  rw [same] at h
  exact ⟨x, hx, h⟩
 ·rintro ⟨x, hx, h⟩
  refine ⟨x, hx, ?_⟩
  show (Lit.sameKey (.string x.1) (.string k)) = true
  rw [same]; exact h
theorem keyed : Go.Maps.Keyed Tryz.prog 9 := Go.Maps.string_keyed Tryz.underlying9
theorem key {k : ByteArray} (h : k.size ≤ 9223372036854775807) : keyOf Tryz.prog 9 (.string k) = some (.string k.data.toList) := Go.WideMaps.keyOf_string_mk Tryz.underlying9 h
theorem zero (w : World) : (zeroValue 154).run Tryz.prog w = .ok (.slice none 0 0) w := by kernel_rfl
end Tm
def TmAt (w : World) (bm : Nat) (m : Tm.Fn) (n : Nat) : Prop := ∃ l, Tm.Tells l m ∧ l.length ≤ n ∧ w.ownsMap Tryz.prog 9 Tm.raw bm l.length (Tm.datum l)
section
variable {w w' : World} {bm n : Nat} {m : Tm.Fn} {F G : Nat → Prop}
theorem tm_tight {l : List Tm.Pr} {k : Nat} (h : w.ownsMap Tryz.prog 9 Tm.raw bm k (Tm.datum l)) : w.ownsMap Tryz.prog 9 Tm.raw bm l.length (Tm.datum l) := by
 obtain ⟨es, clock, hb, hf, hs, hD⟩ := h
 refine ⟨es, clock, hb, hf, ?_, hD⟩
 have h1 : Maps.size (Tm.datum l) = es.size := by rw [hD]; simp [Maps.size, length_sorted]
 have h2 : Maps.size (Tm.datum l) = l.length := by unfold Tm.datum; rw [Maps.size_eq, List.length_map]
 omega
theorem TmAt.lt (h : TmAt w bm m n) : bm < w.heap.size := by
 obtain ⟨l, -, -, h⟩ := h
 exact World.ownsMap.lt h
theorem TmAt.kept (h : TmAt w bm m n) (k : Kept G w w') (hd : ¬ G bm) : TmAt w' bm m n := by
 have hl := h.lt
 obtain ⟨l, h1, h2, es, clock, hb, r⟩ := h
 exact ⟨l, h1, h2, es, clock, (k.block bm hl hd).trans hb, r⟩
theorem TmAt.below (h : TmAt w bm m n) (k : Below w.heap.size w w') : TmAt w' bm m n := h.kept (Kept.ofBelow k (fun _ => False)) (fun h => h)
theorem TmAt.made (w : World) : TmAt (w.alloc (.map #[] 0)) w.heap.size (fun _ => none) 0 := ⟨[], fun _ => rfl, Nat.le_refl _, World.ownsMap_made w _ _ _⟩
theorem TmAt.look (h : TmAt w bm m n) {k : List UInt8} (hk : k.length ≤ 9223372036854775807) :
  (Instr.lookup 348 (.map (some bm)) (.string (mk k)) true).run Tryz.prog w = .ok (.tuple #[(match m k with | some v => v | none => .slice none 0 0), .bool (m k).isSome]) w := by
 obtain ⟨l, ht, -, h⟩ := h
 obtain ⟨v', ps, h1, h2⟩ := World.ownsMap.look_ok h Tm.keyed Tryz.underlying348 (Tm.zero w) (zd := .held (.slice none 0 0)) (zp := []) rfl (Tm.key (k := mk k) (by rw [mk_len]; exact hk))
 rw [mk_data, Tm.datum_has ht] at h1
 rw [h1]
 rw [mk_data, Tm.datum_at ht] at h2
 unfold Tm.raw at h2
 have e := congrArg Prod.fst (Option.some.inj h2)
 cases hg : m k with
 | none => rw [hg] at e; have e : DataW.held v' = .held _ := e; injection e with e; rw [e]
 | some v => rw [hg] at e; have e : DataW.held v' = .held _ := e; injection e with e; rw [e]
theorem TmAt.put (h : TmAt w bm m n) (hn : n < 1000000000) {k : List UInt8} (hk : k.length ≤ 9223372036854775807) (v : Value) :
  ∃ w', (Instr.mapUpdate 348 (.map (some bm)) (.string (mk k)) v).run Tryz.prog w = .ok () w' ∧ TmAt w' bm (Tm.set m k v) (n + 1) ∧ w.grownBy w' (some bm) := by
 obtain ⟨l, ht, hl, h⟩ := h
 obtain ⟨w', h1, h2, h3⟩ := World.ownsMap.update h Tm.keyed Tryz.underlying348 (by unfold maxLen; omega) (Tm.key (k := mk k) (by rw [mk_len]; exact hk)) (val := v) (d := .held v) (ps := []) rfl
 rw [mk_data, Tm.datum_put] at h2
 refine ⟨w', h1, ⟨_, ht.put k v, ?_, tm_tight h2⟩, h3⟩
 rw [Tm.insP_len]
 have := List.length_filter_le (fun p : Tm.Pr => decide (p.1 ≠ k)) l
 omega
end
open Go.RowKit
def Tm.val (m : Tm.Fn) (q : List UInt8) : Value := match m q with | some v => v | none => .slice none 0 0
def strLen : Value → Nat
 | .string s => s.size
 | _ => 0
theorem tell_any {w : World} {F : Nat → Prop} {bm B n : Nat} {m : Tm.Fn} {L : List UInt8 → List Sz.Rg} (hm : TmAt w bm m n) (hB : w.cell? ⟨B, 0, none⟩ = some (.map (some bm))) (hBl : B < w.heap.size)
  (hv : ∀ q v, m q = some v → Rgs w F v (L q)) (hn : ∀ q, m q = none → (q = [] → L [] = []) ∧ (q ≠ [] → L q = L (Pth.parent q))) (p : List UInt8) (hp : p.length ≤ 100000) :
  Calls Tryz.prog 350 #[.string (mk p), .pointer (some ⟨B, 0, none⟩)] w fun e w' => ∃ v, e = .returned v ∧ Rgs w' F v (L p) ∧ Below w.heap.size w w' := by
 have LK : Hid (∀ (W : World), Below w.heap.size w W → ∀ q : List UInt8, q.length ≤ 100000 → (Instr.lookup 348 (.map (some bm)) (.string (mk q)) true).run Tryz.prog W = .ok (.tuple #[Tm.val m q, .bool (m q).isSome]) W) := Lib.hid (fun W hW q hq => (hm.below hW).look (by omega))
 have CB : Hid (∀ (W : World), Below w.heap.size w W → W.cell? ⟨B, 0, none⟩ = some (.map (some bm))) := Lib.hid (fun W hW => (hW.cell (p := ⟨B, 0, none⟩) hBl).trans hB)
 have HV := Lib.hid hv
 have HN := Lib.hid hn
 have PA := Lib.hid (fun (q : List UInt8) (hq : q.length ≤ 100000) (W : World) => path_ok.parent q W hq)
 have hlook := LK.out w (Below.refl _ _) p hp
 clear hm hv hn hBl
 obtain ⟨ps, hps⟩ : ∃ ps, ps = mk p := ⟨_, rfl⟩
 rw [← hps] at hlook ⊢
 have Hps := Lib.hid hps
 clear hps
 generalize hx : Tm.val m p = x at hlook
 generalize hy : (m p).isSome = y at hlook
 have HX := Lib.hid hx
 have HY := Lib.hid hy
 clear hx hy
 go_enter Tryz.func350, Tryz.ntmps350
 go_wp2_with fail
 go_loopw [0, 4, 5, 20] (fun pv l has _ wr => ∃ q : List UInt8, q.length ≤ 100000 ∧ pv = .string (mk q) ∧ l = Tm.val m q ∧ has = .bool (m q).isSome ∧ Hid (L q = L p) ∧ Below w.heap.size w wr) (fun pv _ _ _ _ => strLen pv)
 case atStart => exact ⟨p, hp, by rw [Hps.out], HX.out.symm, by rw [HY.out], Lib.hid rfl, Below.refl _ _⟩
 case round =>
  obtain ⟨q, hq, rfl, rfl, rfl, hL, hbel⟩ := hrel
  have Hbel := Lib.hid hbel
  clear hlook
  cases hmq : m q with
  | some v =>
   have hval : Tm.val m q = v := by unfold Tm.val; rw [hmq]
   have hfin : Hid (Rgs wr F v (L p)) := Lib.hid (by rw [← hL.out]; exact (HV.out q v hmq).below hbel)
   rw [hval]
   clear hval hmq hbel hB
   go_wp2_with fail
   go_ret
   exact ⟨_, rfl, hfin.out, Hbel.out⟩
  | none =>
   have hval : Tm.val m q = .slice none 0 0 := by unfold Tm.val; rw [hmq]
   rw [hval]
   have ea := str_nil q
   have ia := str_empty q
   by_cases h0 : q = []
   ·have hfin : Hid (Rgs wr F (.slice none 0 0) (L p)) := Lib.hid (by rw [← hL.out, h0, (HN.out q hmq).1 h0]; exact Rws.none _ _ _)
    rw [decide_eq_true h0] at ea ia
    clear hval hmq hbel h0 hB
    generalize mk q = qs at *
    go_wp2_with fail
    go_ret
    exact ⟨_, rfl, hfin.out, Hbel.out⟩
   ·have hL2 : Hid (L (Pth.parent q) = L p) := Lib.hid (by rw [← hL.out]; exact ((HN.out q hmq).2 h0).symm)
    have hsh := Pth.parent_short h0
    have hpl : (Pth.parent q).length ≤ 100000 := by omega
    have PQ := Lib.hid (PA.out q hq)
    have hms : Hid (strLen (.string (mk (Pth.parent q))) < strLen (.string (mk q))) := Lib.hid (by show (mk (Pth.parent q)).size < (mk q).size; rw [mk_len, mk_len]; exact hsh)
    rw [decide_eq_false h0] at ea ia
    have LK2 := Lib.hid (fun W hW => LK.out W hW (Pth.parent q) hpl)
    have Hpl : Hid ((Pth.parent q).length ≤ 100000) := Lib.hid hpl
    generalize hpq : Pth.parent q = pq at *
    clear hval hmq hbel h0 hsh hpq hpl hB
    obtain ⟨qs, hqs⟩ : ∃ qs, qs = mk q := ⟨_, rfl⟩
    rw [← hqs] at ea ia PQ hms ⊢
    clear hqs
    go_wp2_with fail
    refine (PQ.out _).mono ?_
    rintro e w1 ⟨rfl, hb1⟩
    have HB1 := Lib.hid (Hbel.out.trans (hb1.mono Hbel.out.size))
    have hB := CB.out _ HB1.out
    have hlook := LK2.out _ HB1.out
    clear hb1
    generalize hx : Tm.val m pq = x at hlook
    generalize hy : (m pq).isSome = y at hlook
    have HX := Lib.hid hx
    have HY := Lib.hid hy
    clear hx hy
    obtain ⟨qs2, hqs2⟩ : ∃ qs, qs = mk pq := ⟨_, rfl⟩
    rw [← hqs2] at hlook hms ⊢
    have HQ2 := Lib.hid hqs2
    clear hqs2
    go_wp2_with fail
    exact ⟨⟨pq, Hpl.out, by rw [HQ2.out], HX.out.symm, by rw [HY.out], hL2, HB1.out⟩, hms.out⟩
open Go.RowKit
theorem flt_sizer (Z : SizesOk) {w : World} {F : Nat → Prop} {v : Value} {f : List Flt.Cl} (h : Cls w F v f) (hl : f.length ≤ 100000) (bf : ∀ c ∈ f, Flt.Bd c) :
  Calls Tryz.prog 292 #[v] w fun e w' => ∃ (B bm nn : Nat) (m : Tm.Fn), e = .returned (.func (.func 350) #[] #[.pointer (some ⟨B, 0, none⟩)]) ∧ w'.cell? ⟨B, 0, none⟩ = some (.map (some bm)) ∧ B < w'.heap.size ∧ TmAt w' bm m nn ∧
   (∀ q v, m q = some v → Rgs w' (fun i => i ≠ bm) v (Flt.lev f q)) ∧ (∀ q, m q = none → (q = [] → Flt.lev f [] = []) ∧ (q ≠ [] → Flt.lev f q = Flt.lev f (Pth.parent q))) ∧ Below w.heap.size w w' := by
 have hbM : Below w.heap.size w (w.alloc (.map #[] 0)) := (Below.refl _ _).alloc (Nat.le_refl _) _
 have hb0 : Below w.heap.size w ((w.alloc (.map #[] 0)).alloc (.cells #[.map (some w.heap.size)] 348)) := hbM.alloc hbM.size _
 have hAS := flt_asc (h.below hb0) hl
 have hz0 : ((w.alloc (.map #[] 0)).alloc (.cells #[.map (some w.heap.size)] 348)).heap.size = w.heap.size + 2 := by simp
 have hM0 : TmAt ((w.alloc (.map #[] 0)).alloc (.cells #[.map (some w.heap.size)] 348)) w.heap.size (fun _ => none) 0 := (TmAt.made w).below ((Below.refl _ _).alloc (Nat.le_refl _) _)
 have hC0 : ((w.alloc (.map #[] 0)).alloc (.cells #[.map (some w.heap.size)] 348)).cell? ⟨w.heap.size + 1, 0, none⟩ = some (.map (some w.heap.size)) := by
  have := (Row.made (w.alloc (.map #[] 0)) 348 #[.map (some w.heap.size)]).at 0
  have e : (w.alloc (.map #[] 0)).heap.size = w.heap.size + 1 := by simp
  rw [e] at this
  exact this
 have AS := Lib.hid hAS
 have HM0 := Lib.hid hM0
 have HC0 := Lib.hid hC0
 have HB0 := Lib.hid hb0
 have HZ0 := Lib.hid hz0
 clear hAS hM0 hC0 hz0 hbM hb0 h
 have hmk := @run_makeMap Tryz.prog
 go_enter Tryz.func292, Tryz.ntmps292
 go_wp2_with fail
 go_step3
 go_wp2_with fail
 go_step3
 go_wp2_with fail
 refine (AS.out).mono ?_
 rintro e w1 ⟨sv, S, rfl, hS, hperm, hup⟩
 have hz1 := hS.2.size
 rw [HZ0.out] at hz1
 have HZ1 := Lib.hid hz1
 have HSr := Lib.hid (hS.rows (fun _ _ => rfl))
 have HM1 := Lib.hid (HM0.out.below hS.2)
 have HC1 : Hid (w1.cell? ⟨w.heap.size + 1, 0, none⟩ = some (.map (some w.heap.size))) := Lib.hid ((hS.2.cell (p := ⟨w.heap.size + 1, 0, none⟩) (by rw [HZ0.out]; show w.heap.size + 1 < w.heap.size + 2; omega)).trans HC0.out)
 have HB1 : Hid (Below w.heap.size w w1) := Lib.hid (HB0.out.trans (hS.2.mono HB0.out.size))
 have Hperm := Lib.hid hperm
 have Hup := Lib.hid hup
 have hSl : S.length ≤ 100000 := by rw [hperm.length_eq]; exact hl
 have bS : ∀ c ∈ S, Flt.Bd c := fun c hc => bf c (hperm.mem_iff.1 hc)
 have BS := Lib.hid bS
 have hsd : Hid (∀ i, NewIn ((w.alloc (.map #[] 0)).alloc (.cells #[.map (some w.heap.size)] 348)) w1 i → ¬ i = w.heap.size) := Lib.hid (fun i hi e => by have := hi.1; rw [HZ0.out] at this; omega)
 clear hS hperm hup bf bS hz1 HM0 HC0 HB0 AS
 obtain ⟨SA, sc, rfl, hsc⟩ := HSr.out.parts
 have hSl' : (S.length : Int) ≤ 100000 := by omega
 have HSl := Lib.hid hSl
 clear hSl
 go_wp2_with fail
 go_loopw [6, 7, 9, 15] (fun _ _ _ i wr => ∃ (n : Nat) (m : Tm.Fn), n ≤ S.length ∧ i = .int .i64 (n : Int) ∧ Hid (TmAt wr w.heap.size m n) ∧ Hid (∀ q v, m q = some v → Rgs wr (fun i => i ≠ w.heap.size) v (Flt.lev (S.take n) q)) ∧ Hid (Flt.Fits (S.take n) (fun q => m q ≠ none)) ∧ Kept (fun i => i = w.heap.size) w1 wr) (fun _ _ _ i _ => S.length - (intOf i).toNat)
 case atStart => exact ⟨0, fun _ => none, Nat.zero_le _, rfl, HM1, Lib.hid (fun q v h => by cases h), Lib.hid (Flt.fits_start.iff (fun q => ⟨fun h => h rfl, fun h => h.elim⟩)), Kept.refl _ _⟩
 case round =>
  obtain ⟨n, m, hn, rfl, hm, hv, hfit, hkept⟩ := hrel
  obtain ⟨w5, rfl⟩ : ∃ W : World, W = wr := ⟨_, rfl⟩
  have hz5 : w.heap.size + 2 ≤ w5.heap.size := Nat.le_trans HZ1.out hkept.size
  have hcB : w5.cell? ⟨w.heap.size + 1, 0, none⟩ = some (.map (some w.heap.size)) := (hkept.cell (p := ⟨w.heap.size + 1, 0, none⟩) (by have := HZ1.out; show w.heap.size + 1 < w1.heap.size; omega) (by show ¬ (w.heap.size + 1 = w.heap.size); omega)).trans HC1.out
  by_cases hlt : n < S.length
  ·obtain ⟨b, o, sc', e, -, -, hb⟩ := HSr.out.block (by omega)
   injection e with e1 e2 e3
   subst e1 e3
   clear e2
   obtain ⟨c, hc⟩ : ∃ c, S[n]? = some c := ⟨_, List.getElem?_eq_getElem hlt⟩
   obtain ⟨c0, c1, c2⟩ := Cls.at (HSr.out.kept hkept hsd.out) hc
   have hbc := BS.out c (List.mem_of_getElem? hc)
   have htk : Hid (S.take (n + 1) = S.take n ++ [c]) := Lib.hid (by
    obtain ⟨h1, h2⟩ := List.getElem?_eq_some_iff.1 hc
    rw [List.take_succ_eq_append_getElem h1, h2])
   have hcu : Hid (∀ d ∈ S.take n, ¬ c.pre < d.pre) := Lib.hid (fun d hd => by
    obtain ⟨i, hi, he⟩ := List.getElem_of_mem hd
    rw [List.length_take] at hi
    have hd2 : S[i]? = some d := by
     rw [← he, List.getElem_take]
     exact List.getElem?_eq_getElem (by omega)
    exact Hup.out i n d c (by omega) hd2 hc)
   have hn0 : (0 : Int) ≤ (n : Int) := by omega
   have hn1 : (n : Int) < (S.length : Int) := by omega
   have hba : Below w5.heap.size w5 (w5.alloc (.cells #[.string (mk c.pre), .int .i64 c.lo, .int .i64 c.hi] 116)) := (Below.refl _ _).alloc (Nat.le_refl _) _
   have TE := Lib.hid (tell_any (L := Flt.lev (S.take n)) (hm.out.below hba) ((hba.cell (p := ⟨w.heap.size + 1, 0, none⟩) (by show w.heap.size + 1 < w5.heap.size; omega)).trans hcB) (by have := hba.size; omega) (fun q v hq => (hv.out q v hq).below hba) (fun q hq => hfit.out.2 q (fun k => k hq)) c.pre hbc.1)
   have HX := Lib.hid (Row.made w5 116 #[.string (mk c.pre), .int .i64 c.lo, .int .i64 c.hi])
   have Hba := Lib.hid hba
   have Hkept := Lib.hid hkept
   have hzx : Hid (w5.heap.size < (w5.alloc (.cells #[.string (mk c.pre), .int .i64 c.lo, .int .i64 c.hi] 116)).heap.size) := Lib.hid (by simp)
   have Hz5 := Lib.hid hz5
   have HcB := Lib.hid hcB
   have HKL := Lib.hid (Flt.lev_len (S.take n) c.pre)
   have HKB := Lib.hid (Flt.lev_bd (S.take n) c.pre)
   have Hbc := Lib.hid hbc
   clear hkept hba hbc hc hcB hz5
   obtain ⟨p, lo, hi⟩ := c
   simp only at c0 c1 c2 hcu htk TE HX Hba hzx HKL HKB
   go_wp2_with fail
   refine (TE.out).mono ?_
   rintro e w2 ⟨kv, rfl, hkv, hb2⟩
   have HKr := Lib.hid hkv
   have K2 : Hid (Kept (fun i => i = w.heap.size) w1 w2) := Lib.hid (Hkept.out.trans (Kept.ofBelow (Hba.out.trans (hb2.mono Hba.out.size)) (fun i => i = w.heap.size)) (fun _ _ h => h))
   have TM2 : Hid (TmAt w2 w.heap.size m n) := Lib.hid ((hm.out.below Hba.out).below hb2)
   have V2 : Hid (∀ q v, m q = some v → Rgs w2 (fun i => i ≠ w.heap.size) v (Flt.lev (S.take n) q)) := Lib.hid (fun q v hq => ((hv.out q v hq).below Hba.out).below hb2)
   have hz52 : w5.heap.size < w2.heap.size := Nat.lt_of_lt_of_le hzx.out hb2.size
   have Hz52 := Lib.hid hz52
   have CS : Hid (∀ W, Below w2.heap.size w2 W → W.cell? ⟨w.heap.size + 1, 0, none⟩ = some (.map (some w.heap.size)) ∧ W.cell? ⟨w5.heap.size, 0, none⟩ = some (.string (mk p)) ∧ W.cell? ⟨w5.heap.size, 1, none⟩ = some (.int .i64 lo) ∧ W.cell? ⟨w5.heap.size, 2, none⟩ = some (.int .i64 hi)) := Lib.hid (fun W hW => by
    have hb3 := hb2.trans (hW.mono hb2.size)
    have hs5 := Hba.out.size
    refine ⟨?_, (hb3.cell (p := ⟨w5.heap.size, 0, none⟩) hzx.out).trans (HX.out.at 0), (hb3.cell (p := ⟨w5.heap.size, 1, none⟩) hzx.out).trans (HX.out.at 1), (hb3.cell (p := ⟨w5.heap.size, 2, none⟩) hzx.out).trans (HX.out.at 2)⟩
    refine (hb3.cell (p := ⟨w.heap.size + 1, 0, none⟩) (by have := Hz5.out; show w.heap.size + 1 < _; omega)).trans ?_
    exact (Hba.out.cell (p := ⟨w.heap.size + 1, 0, none⟩) (by have := Hz5.out; show w.heap.size + 1 < w5.heap.size; omega)).trans HcB.out)
   have JO : Hid (∀ (P Q : Nat → Prop) (W : World) (x y : Value), Rgs W P x (Flt.lev (S.take n) p) → Rgs W Q y [(lo, hi)] → Calls Tryz.prog 352 #[x, y] W fun e w' => ∃ v', e = .returned v' ∧ Rgs w' (NewIn W w') v' (Sz.two 0 (Flt.lev (S.take n) p) [(lo, hi)]) ∧ Below W.heap.size W w') := Lib.hid (fun P Q W x y hx hy => Z.join hx hy (by have := HKL.out; omega) (by simp) (fun r hr => by have := HKB.out r hr; unfold Bd; omega) (fun r hr => by rw [List.mem_singleton.1 hr]; exact Hbc.out.2))
   have hput := Lib.hid (Flt.lev_put (S.take n) ⟨p, lo, hi⟩)
   have hskip := Lib.hid (fun hr => Flt.lev_skip (P := S.take n) (c := ⟨p, lo, hi⟩) hr)
   have hfskip := Lib.hid (fun hr => Flt.fits_skip (c := ⟨p, lo, hi⟩) hfit.out hr)
   have hknown : Hid (∀ q, m q ≠ none → q ≠ p → Flt.lev (S.take n ++ [⟨p, lo, hi⟩]) q = Flt.lev (S.take n) q) := Lib.hid (fun q hq hne => Flt.lev_known (c := ⟨p, lo, hi⟩) hfit.out hcu.out (q := q) hq hne)
   have hfput := Lib.hid (Flt.fits_put (c := ⟨p, lo, hi⟩) hfit.out)
   have hkl : (Flt.lev (S.take n) p).length ≤ 202 := HKL.out
   have HnS : Hid (n ≤ 100000) := Lib.hid (by have := HSl.out; omega)
   have Hpp : Hid (p.length ≤ 100000) := Lib.hid Hbc.out.1
   clear hkv hb2 hm hv hfit c0 c1 c2 TE Hba HX hzx Hkept HcB hz52
   obtain ⟨KA, kc, rfl, hkc⟩ := HKr.out.parts
   generalize hKK : Flt.lev (S.take n) p = K at *
   have HKK := Lib.hid hKK
   clear hKK
   have hkl' : (K.length : Int) ≤ 202 := by omega
   go_wp2_with fail
   go_loopw [9, 25] (fun _ j wq => ∃ k : Nat, k ≤ K.length ∧ j = .int .i64 (k : Int) ∧ Below w2.heap.size w2 wq) (fun _ j _ => K.length - (intOf j).toNat)
   case atStart => exact ⟨0, Nat.zero_le _, rfl, Below.refl _ _⟩
   case round =>
    obtain ⟨k, hk, rfl, hbq⟩ := hrel
    obtain ⟨q0, q1, q2, q3⟩ := CS.out wr hbq
    have HQ := Lib.hid hbq
    by_cases hlk : k < K.length
    ·obtain ⟨rb, ro, kc', e, -, -, hrb⟩ := HKr.out.block (by omega)
     injection e with e1 e2 e3
     subst e1 e3
     clear e2
     obtain ⟨r, hr⟩ : ∃ r, K[k]? = some r := ⟨_, List.getElem?_eq_getElem hlk⟩
     obtain ⟨d0, d1⟩ := Rgs.at (HKr.out.below hbq) hr
     have hrm := List.mem_of_getElem? hr
     have hk0 : (0 : Int) ≤ (k : Int) := by omega
     have hk1 : (k : Int) < (K.length : Int) := by omega
     have hba : Below wr.heap.size wr (wr.alloc (.cells #[.int .i64 r.1, .int .i64 r.2] 114)) := (Below.refl _ _).alloc (Nat.le_refl _) _
     have HQ2 : Hid (Below w2.heap.size w2 (wr.alloc (.cells #[.int .i64 r.1, .int .i64 r.2] 114))) := Lib.hid (hbq.trans (hba.mono hbq.size))
     clear hr hbq hba
     obtain ⟨r1, r2⟩ := r
     simp only at d0 d1 HQ2
     obtain ⟨z0, z1, z2, z3⟩ := CS.out _ HQ2.out
     have hne : w5.heap.size ≠ wr.heap.size := by have := Hz52.out; have := HQ.out.size; omega
     by_cases hc1 : r1 ≤ lo
     ·have g1 : decide (r1 ≤ lo) = true := decide_eq_true hc1
      by_cases hc2 : hi ≤ r2
      ·have g2 : decide (hi ≤ r2) = true := decide_eq_true hc2
       have hex : ∃ r ∈ K, r.1 ≤ lo ∧ hi ≤ r.2 := ⟨(r1, r2), hrm, hc1, hc2⟩
       have hF := Lib.hid (hfskip.out hex)
       have hV : Hid (∀ q v, m q = some v → Rgs (wr.alloc (.cells #[.int .i64 r1, .int .i64 r2] 114)) (fun i => i ≠ w.heap.size) v (Flt.lev (S.take (n + 1)) q)) := Lib.hid (fun q v hq => by
        rw [htk.out]
        by_cases e : q = p
        ·subst e
         have h1 := hskip.out hex
         have h2 : Flt.lev (S.take n ++ [⟨q, lo, hi⟩]) q = K := h1
         rw [h2, ← HKK.out]
         exact (V2.out q v hq).below HQ2.out
        ·rw [hknown.out q (by rw [hq]; simp) e]
         exact (V2.out q v hq).below HQ2.out)
       have hT := Lib.hid ((TM2.out.below HQ2.out))
       have hK3 := Lib.hid (K2.out.trans (Kept.ofBelow HQ2.out (fun i => i = w.heap.size)) (fun _ _ h => h))
       clear hex hrm
       go_wp2_with fail
       exact ⟨⟨n + 1, m, by omega, by go_num, by obtain ⟨l, a1, a2, a3⟩ := hT.out; exact Lib.hid ⟨l, a1, by omega, a3⟩, hV, by rw [htk.out]; exact hF, hK3.out⟩, by show S.length - ((n : Int) + 1).toNat < S.length - (n : Int).toNat; omega⟩
      ·have g2 : decide (hi ≤ r2) = false := decide_eq_false hc2
       clear hrm
       go_wp2_with fail
       exact ⟨⟨k + 1, by omega, by go_num, HQ2.out⟩, by show K.length - ((k : Int) + 1).toNat < K.length - (k : Int).toNat; omega⟩
     ·have g1 : decide (r1 ≤ lo) = false := decide_eq_false hc1
      clear hrm
      go_wp2_with fail
      exact ⟨⟨k + 1, by omega, by go_num, HQ2.out⟩, by show K.length - ((k : Int) + 1).toNat < K.length - (k : Int).toNat; omega⟩
    ·have HQ2 : Hid (Below w2.heap.size w2 wr.drew) := Lib.hid hbq.drew
     clear hbq
     go_wp2_with fail
     refine wp_region_held_drew (S := (fun w' : World => w'.cell? ⟨w.heap.size + 1, 0, none⟩ = some (.map (some w.heap.size)) ∧ w'.cell? ⟨w5.heap.size, 0, none⟩ = some (.string (mk p)) ∧ w'.cell? ⟨w5.heap.size, 1, none⟩ = some (.int .i64 lo) ∧ w'.cell? ⟨w5.heap.size, 2, none⟩ = some (.int .i64 hi))) (by kernel_rfl) (CS.out _ HQ2.out) (fun hHeld => ?_)
     refine wpAnyH_tk (i := 0) (v := ?_) rfl (Or.inl ⟨by rfl, (by intro w hSw; have d0 := hSw.2.1; have d1 := hSw.2.2.1; have d2 := hSw.2.2.2; have d3 := hSw.1; go_simp; try with_reducible rfl)⟩) (by assumption) ?_
     simp only [zz]
     refine wpAnyH_td (i := 1) rfl ?_
     simp only [zz]
     refine wpAnyH_tk (i := 2) (v := ?_) rfl (Or.inl ⟨by rfl, (by intro w hSw; have d0 := hSw.2.1; have d1 := hSw.2.2.1; have d2 := hSw.2.2.2; have d3 := hSw.1; go_simp; try with_reducible rfl)⟩) (by assumption) ?_
     simp only [zz]
     refine wpAnyH_td (i := 3) rfl ?_
     simp only [zz]
     refine wpAnyH_td (i := 4) rfl ?_
     simp only [zz]
     refine wpAnyH_tk (i := 5) (v := ?_) rfl (Or.inl ⟨by rfl, (by intro w hSw; have d0 := hSw.2.1; have d1 := hSw.2.2.1; have d2 := hSw.2.2.2; have d3 := hSw.1; go_simp; try with_reducible rfl)⟩) (by assumption) ?_
     simp only [zz]
     refine wpAnyH_ready (rs := [6]) (by kernel_rfl) (by simp) ?_
     refine AllReadyH.cons rfl (fun K hK => ?_) AllReadyH.nil
     go_simp
     have hb6 : Below wr.drew.heap.size wr.drew (wr.drew.alloc (.cells #[.int .i64 lo, .int .i64 hi] 114)) := (Below.refl _ _).alloc (Nat.le_refl _) _
     have HB6 : Hid (Below w2.heap.size w2 (wr.drew.alloc (.cells #[.int .i64 lo, .int .i64 hi] 114))) := Lib.hid (HQ2.out.trans (hb6.mono HQ2.out.size))
     have HM6 := Lib.hid (rg_made wr.drew 114 lo hi)
     have hS6 := CS.out _ HB6.out
     clear hb6
     refine hK.out _ _ hS6 (fun hHeld => ?_)
     clear hS6
     clear hK K
     refine wpAnyH_ready (rs := [7]) (by kernel_rfl) (by simp) ?_
     refine AllReadyH.cons rfl (fun K hK => ?_) AllReadyH.nil
     go_simp
     go_at_call 352
     refine (JO.out _ _ _ _ _ (HKr.out.below HB6.out) HM6.out).mono ?_
     rintro e w7 ⟨jv, rfl, hjv, hb7⟩
     have HB7 : Hid (Below w2.heap.size w2 w7) := Lib.hid (HB6.out.trans (hb7.mono HB6.out.size))
     have HJ := Lib.hid hjv
     have HZ7 : Hid (w2.heap.size ≤ (wr.drew.alloc (.cells #[.int .i64 lo, .int .i64 hi] 114)).heap.size) := Lib.hid HB6.out.size
     have hS7 := CS.out _ HB7.out
     clear hjv hb7
     refine hK.out _ _ hS7 (fun hHeld => ?_)
     clear hS7
     clear hK K
     refine wpAnyH_ready (rs := [8]) (by kernel_rfl) (by simp) ?_
     refine AllReadyH.cons rfl (fun K hK => ?_) AllReadyH.nil
     obtain ⟨w8, hup8, hm8, hg8⟩ := (TM2.out.below HB7.out).put (by have := HnS.out; omega) (k := p) (by have := Hpp.out; omega) jv
     have kk := Kept.ofGrown (F := fun i => i = w.heap.size) hg8 (fun i e => by injection e with e; exact e.symm)
     have hz7 := HB7.out.size
     have hz5 := Hz5.out
     have hz52 := Hz52.out
     have hS8 := (⟨(kk.cell (p := ⟨w.heap.size + 1, 0, none⟩) (by have := Hz5.out; show w.heap.size + 1 < w7.heap.size; omega) (by show ¬ (w.heap.size + 1 = w.heap.size); omega)).trans hHeld.1, (kk.cell (p := ⟨w5.heap.size, 0, none⟩) (by show w5.heap.size < w7.heap.size; omega) (by show ¬ (w5.heap.size = w.heap.size); omega)).trans hHeld.2.1, (kk.cell (p := ⟨w5.heap.size, 1, none⟩) (by show w5.heap.size < w7.heap.size; omega) (by show ¬ (w5.heap.size = w.heap.size); omega)).trans hHeld.2.2.1, (kk.cell (p := ⟨w5.heap.size, 2, none⟩) (by show w5.heap.size < w7.heap.size; omega) (by show ¬ (w5.heap.size = w.heap.size); omega)).trans hHeld.2.2.2⟩ : _ ∧ _ ∧ _ ∧ _)
     have HM8 := Lib.hid hm8
     have KK := Lib.hid kk
     clear hm8 hg8 kk hz7 hz5 hz52
     go_simp
     refine hK.out _ _ hS8 (fun hHeld => ?_)
     clear hS8
     clear hK K
     refine wpAnyH_done (by kernel_rfl) ?_ _
     have hV : Hid (∀ q v, Tm.set m p jv q = some v → Rgs w8 (fun i => i ≠ w.heap.size) v (Flt.lev (S.take (n + 1)) q)) := Lib.hid (fun q v hq => by
      rw [htk.out]
      unfold Tm.set at hq
      by_cases e : q = p
      ·subst e
       rw [if_pos rfl] at hq
       injection hq with hq
       subst hq
       have h1 := hput.out
       have h2 : Flt.lev (S.take n ++ [⟨q, lo, hi⟩]) q = Sz.two 0 K [(lo, hi)] := h1
       rw [h2]
       exact (HJ.out.mono (G := fun i => i ≠ w.heap.size) (fun i hi e => by have := hi.1; have := HZ7.out; have := Hz5.out; have := Hz52.out; omega)).kept KK.out (fun i h k => h k)
      ·rw [if_neg e] at hq
       rw [hknown.out q (by rw [hq]; simp) e]
       exact ((V2.out q v hq).below HB7.out).kept KK.out (fun i h k => h k))
     have hF : Hid (Flt.Fits (S.take (n + 1)) (fun q => Tm.set m p jv q ≠ none)) := Lib.hid (by
      rw [htk.out]
      refine hfput.out.iff (fun q => ?_)
      unfold Tm.set
      by_cases e : q = p
      ·rw [if_pos e]; exact ⟨fun _ => Or.inl e, fun _ h => by cases h⟩
      ·rw [if_neg e]; exact ⟨fun h => Or.inr h, fun h => h.resolve_left e⟩)
     have hK3 := Lib.hid ((K2.out.trans (Kept.ofBelow HB7.out (fun i => i = w.heap.size)) (fun _ _ h => h)).trans KK.out (fun _ _ h => h))
     clear hHeld
     go_wp2_with fail
     exact ⟨⟨n + 1, _, by omega, by go_num, HM8, hV, hF, hK3.out⟩, by show S.length - ((n : Int) + 1).toNat < S.length - (n : Int).toNat; omega⟩
  ·obtain rfl : n = S.length := by omega
   have hend : Hid ((∀ q v, m q = some v → Rgs w5 (fun i => i ≠ w.heap.size) v (Flt.lev f q)) ∧ (∀ q, m q = none → (q = [] → Flt.lev f [] = []) ∧ (q ≠ [] → Flt.lev f q = Flt.lev f (Pth.parent q)))) := Lib.hid (by
    have h1 := hv.out
    have h2 := hfit.out
    rw [List.take_length] at h1 h2
    refine ⟨fun q v hq => by rw [← Flt.lev_perm Hperm.out]; exact h1 q v hq, fun q hq => ?_⟩
    have := h2.2 q (fun k => k hq)
    rw [Flt.lev_perm Hperm.out, Flt.lev_perm Hperm.out, Flt.lev_perm Hperm.out] at this
    exact this)
   have HcB := Lib.hid hcB
   have Hz5 := Lib.hid hz5
   have Hfin : Hid (Below w.heap.size w w5) := Lib.hid (HB1.out.trans (hkept.below (B := w.heap.size) HB1.out.size (fun i e => by rw [e]; exact Nat.le_refl _)))
   clear hkept hv hfit hcB hz5
   go_wp2_with fail
   try rw [Exit.noGoto_ret]
   go_ret
   exact ⟨w.heap.size + 1, w.heap.size, S.length, m, rfl, HcB.out, by have := Hz5.out; omega, hm.out, hend.out.1, hend.out.2, Hfin.out⟩
end Go.Proofs.YtpafpegcodempaaGreat
