import Derived.Test.YtpmolinmopgbdaaGreatCom30
import Derived.Test.YtpmolinmopgbdaaGreatCom33
import Derived.Test.YtpmolinmopgbdaaGreatCom5
import Derived.Test.YtpmolinmopgbdaaGreatCom9
import Derived.Test.YtpmolinmopgbdaaGreatCom32
import Derived.Test.YtpmolinmopgbdaaGreatCom11
import Derived.Test.YtpmolinmopgbdaaGreatCom12
import Derived.Test.YtpmolinmopgbdaaGreatCom21
import Derived.Test.YtpmolinmopgbdaaGreatCom3
import Derived.Test.YtpmolinmopgbdaaGreatCom2
import Derived.WalkMore
import Derived.StringKeys
import Derived.Maps.OwnSet
set_option maxRecDepth 100000
set_option linter.unusedVariables false
set_option linter.unusedSimpArgs false
set_option maxHeartbeats 12800000
namespace Go.Proofs.YtpmolinmopgbdaaGreat
open List renaming getElem_toArray → z1, getElem_cons_zero → z2, getElem_cons_succ → z3, setIfInBounds_toArray → z4, set_cons_zero → z5, set_cons_succ → z6
open Go.RowKit Go.Sort
theorem frs_eq {a b : List RFr} (ha : ∀ r ∈ a, r.x.v.length = 65) (hb : ∀ r ∈ b, r.x.v.length = 65) : FrsEq a b ↔ a.map (·.x) = b.map (·.x) := by
 have one : ∀ r s : RFr, r.x.v.length = 65 → s.x.v.length = 65 → (FrEq r s ↔ r.x = s.x) := by
  intro r s hr hs
  unfold FrEq
  rw [(Know.order_spec (hr.trans hs.symm)).2.1]
  obtain ⟨_, _, ⟨f, v, no⟩⟩ := r
  obtain ⟨_, _, ⟨g, u, mo⟩⟩ := s
  unfold Know.Keyd
  simp only [Know.Fr.mk.injEq]
  constructor
  ·rintro ⟨⟨h1, h2⟩, h3⟩; exact ⟨h3, h1, h2⟩
  ·rintro ⟨h3, h1, h2⟩; exact ⟨⟨h1, h2⟩, h3⟩
 constructor
 ·rintro ⟨hl, h⟩
  refine List.ext_getElem? (fun i => ?_)
  rw [List.getElem?_map, List.getElem?_map]
  rcases Nat.lt_or_ge i a.length with hi | hi
  ·rw [List.getElem?_eq_getElem hi, List.getElem?_eq_getElem (by omega : i < b.length)]
   have := (one _ _ (ha _ (List.getElem_mem hi)) (hb _ (List.getElem_mem (by omega : i < b.length)))).1 (h i _ _ (List.getElem?_eq_getElem hi) (List.getElem?_eq_getElem (by omega)))
   simp [this]
  ·rw [List.getElem?_eq_none hi, List.getElem?_eq_none (by omega : b.length ≤ i)]
 ·intro h
  refine ⟨by have := congrArg List.length h; rwa [List.length_map, List.length_map] at this, fun i r s h1 h2 => ?_⟩
  refine (one r s (ha r (List.mem_of_getElem? h1)) (hb s (List.mem_of_getElem? h2))).2 ?_
  have := congrArg (fun L => L[i]?) h
  simp only [List.getElem?_map, h1, h2, Option.map_some] at this
  injection this
theorem know_same (V : VecOk) (I : IsetOk) (C : CoverOk) (Z : FilterOk) {w : World} {F G : Nat → Prop} {v u : Value} {a b : Know.K} (ha : Kns w F v a) (hb : Kns w G u b) (ka : Know.Ok a) (kb : Know.Ok b) : Calls Tryz.prog 16 #[v, u] w fun e w' => Says e (∃ c, Know.Canon a c ∧ Know.Canon b c) ∧ Below w.heap.size w w' := by
 obtain ⟨a1, a2, rfl, hfa, hia⟩ := ha
 obtain ⟨b1, b2, rfl, hfb, hib⟩ := hb
 obtain ⟨A, ca, rfl, -⟩ := hfa.parts
 obtain ⟨B, cb, rfl, -⟩ := hia.1.parts
 obtain ⟨D, cd, rfl, -⟩ := hfb.parts
 obtain ⟨E, ce, rfl, -⟩ := hib.1.parts
 obtain ⟨W0, hW0⟩ : ∃ W0, W0 = (w.alloc (.cells #[.slice A a.frags.length ca, .slice B a.items.length cb] 25)).alloc (.cells #[.slice D b.frags.length cd, .slice E b.items.length ce] 25) := ⟨_, rfl⟩
 have hb0 : Below w.heap.size w W0 := by rw [hW0]; exact ((Below.refl _ _).alloc (Nat.le_refl _) _).alloc (by simp) _
 have r0 : Row W0 w.heap.size 25 #[.slice A a.frags.length ca, .slice B a.items.length cb] := by rw [hW0]; exact (Row.made w _ _).behindNew _
 have r1 : Row W0 (w.heap.size + 1) 25 #[.slice D b.frags.length cd, .slice E b.items.length ce] := by
  rw [hW0]
  have := Row.made (w.alloc (.cells #[.slice A a.frags.length ca, .slice B a.items.length cb] 25)) 25 #[.slice D b.frags.length cd, .slice E b.items.length ce]
  rwa [World.size_alloc] at this
 have XC := Lib.hid (fun (W : World) (h : InB W0 W) => (⟨(r0.below h.below r0.inHeap).at 0, (r0.below h.below r0.inHeap).at 1, (r1.below h.below r1.inHeap).at 0, (r1.below h.below r1.inHeap).at 1⟩ : W.cell? ⟨w.heap.size, 0, none⟩ = some (.slice A a.frags.length ca) ∧ W.cell? ⟨w.heap.size, 1, none⟩ = some (.slice B a.items.length cb) ∧ W.cell? ⟨w.heap.size + 1, 0, none⟩ = some (.slice D b.frags.length cd) ∧ W.cell? ⟨w.heap.size + 1, 1, none⟩ = some (.slice E b.items.length ce)))
 have R0 := Lib.hid (fun (W : World) (h : InB W0 W) => And.intro (r0.below h.below r0.inHeap) (r1.below h.below r1.inHeap))
 have HS0 : Hid (w.heap.size < W0.heap.size ∧ w.heap.size + 1 < W0.heap.size) := Lib.hid ⟨r0.inHeap, r1.inHeap⟩
 have CA := Lib.hid (fun (W : World) (h : InB W0 W) => know_canon V I C Z (w := W) (F := AnyB) (v := .agg #[.slice A a.frags.length ca, .slice B a.items.length cb]) ⟨_, _, rfl, ((hfa.below hb0).below h.below).any, ((hia.below hb0).below h.below).any⟩ ka)
 have CB := Lib.hid (fun (W : World) (h : InB W0 W) => know_canon V I C Z (w := W) (F := AnyB) (v := .agg #[.slice D b.frags.length cd, .slice E b.items.length ce]) ⟨_, _, rfl, ((hfb.below hb0).below h.below).any, ((hib.below hb0).below h.below).any⟩ kb)
 have KA := Lib.hid (fun c (h : Know.Canon a c) => Know.canon_ok ka h)
 have KB := Lib.hid (fun c (h : Know.Canon b c) => Know.canon_ok kb h)
 have HB0 := Lib.hid hb0
 clear hfa hia hfb hib ka kb hb0 r0 r1
 go_enter Tryz.func16, Tryz.ntmps16
 go_wp2_with fail
 rw [← hW0]
 clear hW0
 refine wp_region_tail (n := 4) (S := (fun w' : World => InB W0 w')) (by kernel_rfl) (by kernel_rfl) (by rfl) ((InB.refl W0).drew) (fun hHeld => ?_)
 refine wpAnyH_tk (i := 0) (v := ?_) rfl (Or.inl ⟨by rfl, (by intro w hSw; obtain ⟨c0, c1, c2, c3⟩ := XC.out _ hSw; go_simp; try with_reducible rfl)⟩) (by assumption) ?_
 simp only [Act.put, z1, z2, z3, z4, z5, z6]
 refine wpAnyH_tk (i := 2) (v := ?_) rfl (Or.inl ⟨by rfl, (by intro w hSw; obtain ⟨c0, c1, c2, c3⟩ := XC.out _ hSw; go_simp; try with_reducible rfl)⟩) (by assumption) ?_
 simp only [Act.put, z1, z2, z3, z4, z5, z6]
 refine wpAnyH_ready (rs := [1]) (by kernel_rfl) (by simp) ?_
 refine AllReadyH.cons rfl (fun K hK => ?_) AllReadyH.nil
 go_simp
 go_at_call 11
 refine (CA.out _ hHeld).mono ?_
 rintro e w1 ⟨v1, cA, rfl, hc, hk, hb⟩
 obtain ⟨A1, m1, e1, B1, n1, d1, rfl⟩ := hk.parts
 have HL1 := Lib.hid hHeld.below.size
 have S1 := InB.trans hHeld hb
 have HCA := Lib.hid hc
 have KA1 := Lib.hid hk
 refine hK.out _ _ S1 (fun hHeld => ?_)
 clear S1 hb hk hc
 clear hK K
 refine wpAnyH_ready (rs := [3]) (by kernel_rfl) (by simp) ?_
 refine AllReadyH.cons rfl (fun K hK => ?_) AllReadyH.nil
 go_simp
 go_at_call 11
 refine (CB.out _ hHeld).mono ?_
 rintro e w3 ⟨v3, cB, rfl, hc, hk, hb⟩
 obtain ⟨A2, m2, e2, B2, n2, d2, rfl⟩ := hk.parts
 have S3 := InB.trans hHeld hb
 have HL3 := Lib.hid hHeld.below.size
 have HCB := Lib.hid hc
 have KB3 := Lib.hid hk
 obtain ⟨p1, p2, rs, q1, q2, q3, q4, q5⟩ := KA1.out
 have KA3 : Hid (KnNew W0.drew (.agg #[Value.slice A1 m1 e1, Value.slice B1 n1 d1]) cA w3) := Lib.hid ⟨p1, p2, rs, q1, q2, Rws.below q3 hb, fun r hr => (q4 r hr).below hb, q5.below hb⟩
 clear q1 q2 q3 q4 q5
 have T3 := Lib.hid (Row.there2 (R0.out _ S3).1)
 have RR := (R0.out _ S3)
 have K4a := Lib.hid (kn_kept KA3.out RR.1 (HS0.out.1) (Value.slice A1 m1 e1) (Value.slice B1 n1 d1))
 have K4b := Lib.hid (kn_kept KB3.out RR.1 (Nat.lt_of_lt_of_le HS0.out.1 HL3.out) (Value.slice A1 m1 e1) (Value.slice B1 n1 d1))
 have R4a := Lib.hid (Row.put2 RR.1 (Value.slice A1 m1 e1) (Value.slice B1 n1 d1))
 have R4b := Lib.hid (row_kept2 RR.2 (Nat.ne_of_lt (Nat.lt_succ_self _)) (Value.slice A1 m1 e1) (Value.slice B1 n1 d1))
 have T4 := Lib.hid (Row.there2 R4b.out)
 have KA5 := Lib.hid (kn_kept K4a.out R4b.out HS0.out.2 (Value.slice A2 m2 e2) (Value.slice B2 n2 d2))
 have KB5 := Lib.hid (kn_kept K4b.out R4b.out (Nat.lt_of_lt_of_le HS0.out.2 HL3.out) (Value.slice A2 m2 e2) (Value.slice B2 n2 d2))
 have RA5 := Lib.hid (row_kept2 R4a.out (Nat.ne_of_gt (Nat.lt_succ_self _)) (Value.slice A2 m2 e2) (Value.slice B2 n2 d2))
 have RB5 := Lib.hid (Row.put2 R4b.out (Value.slice A2 m2 e2) (Value.slice B2 n2 d2))
 have B3 := HB0.out.trans (S3.below.mono HB0.out.size)
 have B4 := put2_below B3 B3.size (b := w.heap.size) (Nat.le_refl _) (Value.slice A1 m1 e1) (Value.slice B1 n1 d1)
 have B5 := Lib.hid (put2_below B4 B4.size (b := w.heap.size + 1) (Nat.le_succ _) (Value.slice A2 m2 e2) (Value.slice B2 n2 d2))
 clear RR B3 B4
 refine hK.out _ _ S3 (fun hHeld => ?_)
 clear S3 hb hk hc
 clear hK K
 refine wpAnyH_done (by kernel_rfl) ?_ _
 refine wpAny_of_held (S := fun _ => True) _ _ _ _ ?_
 have hHeld : True := trivial
 refine wpAnyH_ready (rs := [4]) (by kernel_rfl) (by simp) ?_
 refine AllReadyH.cons rfl (fun K hK => ?_) AllReadyH.nil
 refine step_mstore (.tmp 2) (.tmp 6) rfl (by rfl) (by rfl) (by rfl) T3.out (knSize _ _) (two_one rfl rfl) ?_
 refine hK.out _ _ trivial (fun hHeld => ?_)
 clear hK K
 refine wpAnyH_ready (rs := [5]) (by kernel_rfl) (by simp) ?_
 refine AllReadyH.cons rfl (fun K hK => ?_) AllReadyH.nil
 refine step_mstore (.tmp 3) (.tmp 8) rfl (by rfl) (by rfl) (by rfl) T4.out (knSize _ _) (two_one rfl rfl) ?_
 refine hK.out _ _ trivial (fun hHeld => ?_)
 clear hK K
 refine wpAnyH_done (by kernel_rfl) ?_ _
 generalize (w3.setCells w.heap.size 0 [Value.slice A1 m1 e1, Value.slice B1 n1 d1]).setCells (w.heap.size + 1) 0 [Value.slice A2 m2 e2, Value.slice B2 n2 d2] = W5 at *
 obtain ⟨p1, p2, ra, e1, ea, h1, h2, h3⟩ := KA5.out
 obtain ⟨q1, q2, rb, e2, eb, g1, g2, g3⟩ := KB5.out
 injection e1 with e1
 injection e2 with e2
 simp only [Array.mk.injEq, List.cons.injEq, and_true] at e1 e2
 obtain ⟨rfl, rfl⟩ := e1
 obtain ⟨rfl, rfl⟩ := e2
 have okA := KA.out _ HCA.out
 have okB := KB.out _ HCB.out
 have hma : ∀ r ∈ ra, r.x ∈ cA.frags := fun r hr => by rw [← ea]; exact List.mem_map.2 ⟨r, hr, rfl⟩
 have hmb : ∀ r ∈ rb, r.x ∈ cB.frags := fun r hr => by rw [← eb]; exact List.mem_map.2 ⟨r, hr, rfl⟩
 have big : ∀ {k : Know.K} {x : Know.Fr}, Know.Ok k → x ∈ k.frags → x.f.length ≤ 100000 := fun hk hx => (Know.ok_cov hk hx).1
 have lra : ra.length ≤ 99999 := by have := okA.fr; rw [← ea, List.length_map] at this; omega
 have IE := Lib.hid (it_equal h3 g3 (by have := okA.it; omega) (by have := okB.it; omega))
 have FE := Lib.hid (fun (W : World) (hW : Below W5.heap.size W5 W) => fr_equals Z (Rws.below h1 hW) (Rws.below g1 hW) (fun r hr => (h2 r hr).below hW) (fun r hr => (g2 r hr).below hW) lra (fun r hr => Nat.le_trans (okA.no _ (hma r hr)) (by decide)) (fun r hr => Nat.le_trans (okB.no _ (hmb r hr)) (by decide)) (fun r hr => big okA (hma r hr)) (fun r hr => big okB (hmb r hr)))
 have HEQ : Hid ((∃ c, Know.Canon a c ∧ Know.Canon b c) ↔ cA.items = cB.items ∧ FrsEq ra rb) := Lib.hid (by
  rw [frs_eq (fun r hr => okA.len _ (hma r hr)) (fun r hr => okB.len _ (hmb r hr)), ea, eb]
  constructor
  ·rintro ⟨c, k1, k2⟩
   have q1 := Know.canon_one HCA.out k1 (fun _ => Iff.rfl) (fun _ => Iff.rfl)
   have q2 := Know.canon_one HCB.out k2 (fun _ => Iff.rfl) (fun _ => Iff.rfl)
   rw [q1, q2]; exact ⟨rfl, rfl⟩
  ·rintro ⟨h1, h2⟩
   refine ⟨cA, HCA.out, ?_⟩
   have e : cA = cB := by
    cases cA; cases cB
    simp only at h1 h2
    rw [h1, h2]
   rw [e]; exact HCB.out)
 obtain ⟨A6, a6, eA6, -⟩ := h1.parts
 obtain ⟨B6, b6, eB6, -⟩ := g1.parts
 injection eA6 with eA1 eA2 eA3
 injection eB6 with eB1 eB2 eB3
 subst eA1 eA2 eA3 eB1 eB2 eB3
 have cc0 := RA5.out.at 0
 have cc1 := RA5.out.at 1
 have cc2 := RB5.out.at 0
 have cc3 := RB5.out.at 1
 simp only [List.getElem?_toArray, List.getElem?_cons_zero, List.getElem?_cons_succ] at cc0 cc1 cc2 cc3
 clear h1 h2 h3 g1 g2 g3 okA okB hma hmb big lra ea eb CA CB XC R0
 have XK := Lib.hid (fun (W : World) (hW : Below W5.heap.size W5 W) => (⟨(RA5.out.below hW RA5.out.inHeap).at 0, (RB5.out.below hW RB5.out.inHeap).at 0⟩ : _ ∧ _))
 by_cases hi : cA.items = cB.items
 ·rw [decide_eq_true hi] at IE
  have HQ : Hid ((∃ c, Know.Canon a c ∧ Know.Canon b c) ↔ FrsEq ra rb) := Lib.hid (HEQ.out.trans ⟨fun h => h.2, fun h => ⟨hi, h⟩⟩)
  clear hi
  go_wp2_with fail
  refine (IE.out).mono ?_
  rintro e w6 ⟨rfl, h6⟩
  have HB6 := Lib.hid (B5.out.trans (h6.mono B5.out.size))
  have FE6 := Lib.hid (FE.out w6 h6)
  obtain ⟨d0, d1⟩ := XK.out w6 h6
  simp only [List.getElem?_toArray, List.getElem?_cons_zero] at d0 d1
  clear h6 cc0 cc1 cc2 cc3 FE XK IE
  go_wp2_with fail
  refine (FE6.out).mono ?_
  rintro e w7 ⟨⟨t, rfl, ht⟩, h7⟩
  have HB7 := Lib.hid (HB6.out.trans (h7.mono HB6.out.size))
  have HT := Lib.hid (ht.trans HQ.out.symm)
  clear h7 ht d0 d1
  go_wp2_with fail
  go_ret
  exact ⟨⟨t, rfl, HT.out⟩, HB7.out⟩
 ·rw [decide_eq_false hi] at IE
  have HQ : Hid (¬ (∃ c, Know.Canon a c ∧ Know.Canon b c)) := Lib.hid (fun h => hi (HEQ.out.1 h).1)
  clear hi FE
  go_wp2_with fail
  refine (IE.out).mono ?_
  rintro e w6 ⟨rfl, h6⟩
  have HB6 := Lib.hid (B5.out.trans (h6.mono B5.out.size))
  clear h6 cc0 cc1 cc2 cc3
  go_wp2_with fail
  go_ret
  exact ⟨Says.no HQ.out, HB6.out⟩
end Go.Proofs.YtpmolinmopgbdaaGreat
namespace Go.Proofs.YtpmolinmopgbdaaGreat
open Go.RowKit Go.Sort
instance dec_whole_cmp (l : List Know.Fr) (item v : Ver.V) (f : List Flt.Cl) : Decidable (Know.ByWhole l item v f) := inferInstanceAs (Decidable (_ ∧ _))
instance dec_spare_cmp (l : List Know.Fr) (f : List Flt.Cl) (i : Know.It) : Decidable (Know.Spare l f i) := inferInstanceAs (Decidable (∀ y ∈ _, _))
def Know.needed (l : List Know.Fr) (f : List Flt.Cl) (m : List Know.It) : List Know.It := m.filter fun i => !decide (Know.Spare l f i)
theorem Know.needed_more {l : List Know.Fr} {f : List Flt.Cl} {m : List Know.It} {n : Nat} {i : Know.It} (h : m[n]? = some i) : Know.needed l f (m.take (n + 1)) = Know.needed l f (m.take n) ++ if Know.Spare l f i then [] else [i] := by
 obtain ⟨hl, he⟩ := List.getElem?_eq_some_iff.1 h
 unfold Know.needed
 rw [List.take_succ_eq_append_getElem hl, he, List.filter_append]
 congr 1
 by_cases h : Know.Spare l f i
 ·simp [h]
 ·simp [h]
theorem Know.needed_len (l : List Know.Fr) (f : List Flt.Cl) (m : List Know.It) (n : Nat) : (Know.needed l f (m.take n)).length ≤ n := by
 refine Nat.le_trans (List.length_filter_le _ _) ?_
 rw [List.length_take]; omega
theorem Know.compact_of {k c : Know.K} {f : List Flt.Cl} (h : Know.Canon k c) : Know.Compact k f ⟨c.frags, Know.needed c.frags f c.items⟩ where
 frags := h.frags
 items := fun i => by
  show i ∈ Know.needed c.frags f c.items ↔ _
  unfold Know.needed
  rw [List.mem_filter, h.items]
  simp
 upF := h.upF
 upI := h.upI.sublist List.filter_sublist
theorem Vec.ends_short (v : List Int) : (Vec.ends v).length ≤ 65 := by rw [← Vec.endsK_all]; exact Vec.endsK_len v 65
theorem Vec.ends_bd {v : List Int} (h : ∀ n ∈ v, Ver.I64 n) : ∀ y ∈ Vec.ends v, Ver.Bd y := by
 intro y hy
 obtain ⟨i, hi, h0, rfl⟩ := (Vec.ends_mem _ _).1 hy
 have := Vec.at_le (fun n hn => (h n hn).2) i
 unfold Ver.Bd Ver.I64
 exact ⟨⟨by show _ ≤ (i : Int); omega, by show (i : Int) ≤ _; omega⟩, by show _ ≤ Vec.at_ v i; omega, this⟩
theorem know_compact (V : VecOk) (I : IsetOk) (C : CoverOk) (Z : FilterOk) {w : World} {F G : Nat → Prop} {v u : Value} {k : Know.K} {f : List Flt.Cl} (h : Kns w F v k) (hf : Cls w G u f) (hk : Know.Ok k) (ho : Cov.Ok f) : Calls Tryz.prog 25 #[v, u] w fun e w' => ∃ v' c, e = .returned v' ∧ Know.Compact k f c ∧ KnNew w v' c w' ∧ Below w.heap.size w w' := by
 have hz := knZero
 have hzi := itZero
 obtain ⟨i1, hi1, hy0, hy1, hy2⟩ := ver_parts itInfo
 obtain ⟨a, b, rfl, hfa, hia⟩ := h
 obtain ⟨A, ca, rfl, -⟩ := hfa.parts
 obtain ⟨B, cb, rfl, -⟩ := hia.1.parts
 obtain ⟨U, cu, rfl, -⟩ := hf.parts
 obtain ⟨W0, hW0⟩ : ∃ W0, W0 = (w.alloc (.cells #[.slice A k.frags.length ca, .slice B k.items.length cb] 25)).alloc (.cells #[.slice none 0 0, .slice none 0 0] 25) := ⟨_, rfl⟩
 have hb0 : Below w.heap.size w W0 := by rw [hW0]; exact ((Below.refl _ _).alloc (Nat.le_refl _) _).alloc (by simp) _
 have r0 : Row W0 w.heap.size 25 #[.slice A k.frags.length ca, .slice B k.items.length cb] := by rw [hW0]; exact (Row.made w _ _).behindNew _
 have r1 : Row W0 (w.heap.size + 1) 25 #[.slice none 0 0, .slice none 0 0] := by
  rw [hW0]
  have := Row.made (w.alloc (.cells #[.slice A k.frags.length ca, .slice B k.items.length cb] 25)) 25 #[.slice none 0 0, .slice none 0 0]
  rwa [World.size_alloc] at this
 have c0 := r0.at 0
 have c1 := r0.at 1
 simp only [List.getElem?_toArray, List.getElem?_cons_zero, List.getElem?_cons_succ] at c0 c1
 have R0 := Lib.hid r0
 have R1 := Lib.hid r1
 have CA := Lib.hid (know_canon V I C Z (w := W0) (F := AnyB) (v := .agg #[.slice A k.frags.length ca, .slice B k.items.length cb]) ⟨_, _, rfl, (hfa.below hb0).any, (hia.below hb0).any⟩ hk)
 have HF := Lib.hid (fun (W : World) (hW : Below W0.heap.size W0 W) => ((Rws.below (Rws.below hf.lt hb0) hW).mono (fun _ h => h.2) : Cls W (fun i => i < w.heap.size) (.slice U f.length cu) f))
 have HK := Lib.hid (fun c (h : Know.Canon k c) => Know.canon_ok hk h)
 have HS0 : Hid (w.heap.size < W0.heap.size ∧ w.heap.size + 1 < W0.heap.size) := Lib.hid ⟨r0.inHeap, r1.inHeap⟩
 have HB0 := Lib.hid hb0
 have HO := Lib.hid ho
 clear hfa hia hf hk ho hb0 r0 r1
 go_enter Tryz.func25, Tryz.ntmps25
 go_wp2_with fail
 go_step3
 rw [← hW0]
 clear hW0 c0 c1
 have c0 := R0.out.at 0
 have c1 := R0.out.at 1
 simp only [List.getElem?_toArray, List.getElem?_cons_zero, List.getElem?_cons_succ] at c0 c1
 go_wp2_with fail
 refine (CA.out).mono ?_
 rintro e w1 ⟨v1, c, rfl, hc, hk1, hb1⟩
 obtain ⟨A1, m1, cp1, B1, n1, cp2, rfl⟩ := hk1.parts
 have q0 : Row w1 w.heap.size 25 #[.slice A k.frags.length ca, .slice B k.items.length cb] := R0.out.below hb1 R0.out.inHeap
 have T1 := Lib.hid q0.there2
 have K2 := kn_kept hk1 q0 HS0.out.1 (.slice A1 m1 cp1) (.slice B1 n1 cp2)
 have Q2 := Row.put2 q0 (.slice A1 m1 cp1) (.slice B1 n1 cp2)
 have P2 := row_kept2 (R1.out.below hb1 R1.out.inHeap) (Nat.ne_of_lt (Nat.lt_succ_self _)) (.slice A1 m1 cp1) (.slice B1 n1 cp2)
 have kk := put2_kept w1 w.heap.size (.slice A1 m1 cp1) (.slice B1 n1 cp2)
 have B2 := put2_below (HB0.out.trans (hb1.mono HB0.out.size)) (HB0.out.trans (hb1.mono HB0.out.size)).size (b := w.heap.size) (Nat.le_refl _) (.slice A1 m1 cp1) (.slice B1 n1 cp2)
 have F2 : Cls (w1.setCells w.heap.size 0 [.slice A1 m1 cp1, .slice B1 n1 cp2]) AnyB (.slice U f.length cu) f := ((HF.out w1 hb1).kept kk (fun i hi e => by have hi : i < w.heap.size := hi; have e : i = w.heap.size := e; omega)).mono (fun _ _ => trivial)
 have HS2 : Hid (w.heap.size + 1 < W0.heap.size ∧ W0.heap.size ≤ (w1.setCells w.heap.size 0 [.slice A1 m1 cp1, .slice B1 n1 cp2]).heap.size) := Lib.hid ⟨HS0.out.2, Nat.le_trans hb1.size (by simp)⟩
 have HC := Lib.hid hc
 have OK := HK.out c hc
 obtain ⟨p1, p2, rs, g1, ers, h1, h2, h3⟩ := K2
 injection g1 with g1
 simp only [Array.mk.injEq, List.cons.injEq, and_true] at g1
 obtain ⟨rfl, rfl⟩ := g1
 obtain ⟨B', d', g2, -⟩ := h3.1.parts
 injection g2 with g3 g4 g5
 subst g3 g4 g5
 have hrl : rs.length ≤ 1000 := by have := OK.fr; rw [← ers, List.length_map] at this; exact this
 have HIts := Lib.hid h3
 have HRs := Lib.hid h1
 have HIn := Lib.hid h2
 have Hers := Lib.hid ers
 have HF2 := Lib.hid F2
 have HQ2 := Lib.hid Q2
 have HP2 := Lib.hid P2
 have HB2 := Lib.hid B2
 have HOK := Lib.hid OK
 have Hrl := Lib.hid hrl
 have hil : (c.items.length : Int) ≤ 99999 := by have := OK.it; omega
 have c2 := Q2.at 1
 simp only [List.getElem?_toArray, List.getElem?_cons_zero, List.getElem?_cons_succ] at c2
 clear hb1 q0 kk hk1 hc h1 h2 h3 ers F2 Q2 P2 B2 OK hrl c0 c1 CA HF HK
 go_wp2_with (refine wpList_mstore (by rfl) (.tmp 2) (.tmp 12) (by rfl) (by rfl) (by rfl) T1.out (knSize _ _) (two_one rfl rfl) ?_)
 try go_step3
 try go_wp2_with fail
 generalize w1.setCells w.heap.size 0 [.slice A1 m1 cp1, .slice B1 c.items.length cp2] = W2 at *
 clear T1 c2
 go_loopw [5, 16] (fun s5 i wr => ∃ n : Nat, n ≤ c.items.length ∧ i = .int .i64 (n : Int) ∧ Hid (RowsOwn 50 67 itV W2 (Know.needed c.frags f (c.items.take n)) s5 wr)) (fun _ i _ => c.items.length - (intOf i).toNat)
 case atStart => exact ⟨0, Nat.zero_le _, rfl, Lib.hid (RowsOwn.start _ _ _ _)⟩
 case round =>
  obtain ⟨n, hn, rfl, hst⟩ := hrel
  by_cases hlt : n < c.items.length
  ·obtain ⟨bk, o, cap1, e, -, -, hbk⟩ := HIts.out.1.block (by omega)
   injection e with e1 e2 e3
   subst e1 e3
   clear e2
   obtain ⟨⟨⟨y1, y2⟩, xv⟩, hx⟩ : ∃ x, c.items[n]? = some x := ⟨_, List.getElem?_eq_getElem hlt⟩
   have hxm := List.mem_of_getElem? hx
   have h65 : xv.length = 65 := HIts.out.2 _ hxm
   have hbr := hst.out.2
   have LE := Lib.hid (ItAt.elem (HIts.out.below hbr).1 hx h65).all
   have hA : Below wr.heap.size wr (wr.alloc (.cells (itV ⟨⟨y1, y2⟩, xv⟩).toArray 50)) := (Below.refl _ _).alloc (Nat.le_refl _) _
   have FB := ItAt.made wr (i := ⟨⟨y1, y2⟩, xv⟩) h65 50
   have hbA := hbr.trans (hA.mono hbr.size)
   have a0 := FB.by_
   have a1 := FB.n0
   have c0 := (HQ2.out.below hbA HQ2.out.inHeap).at 0
   simp only [List.getElem?_toArray, List.getElem?_cons_zero] at a0 a1 c0
   have HS : Hid ((Tryz.prog.info? 50).map (·.size) = some (itV ⟨⟨y1, y2⟩, xv⟩).length ∧ (itV itZ).toArray.size = (itV ⟨⟨y1, y2⟩, xv⟩).length) := Lib.hid ⟨itSize h65, by rw [it_len h65]; exact itZ_size⟩
   have HV := Lib.hid (know_haver I ⟨y1, y2⟩ ((Rws.below HRs.out hbA).mono (G := AnyB) (fun _ _ => trivial)) (fun r hr => (HIn.out r hr).below hbA) (Rws.below HF2.out hbA) (by have := Hrl.out; omega) (fun r hr => Nat.le_trans (HOK.out.no r.x (by rw [← Hers.out]; exact List.mem_map.2 ⟨r, hr, rfl⟩)) (by decide)))
   have HFB := Lib.hid FB
   have Hbx : Hid (wr.heap.size < (wr.alloc (.cells (itV ⟨⟨y1, y2⟩, xv⟩).toArray 50)).heap.size) := Lib.hid (by simp)
   have HA := Lib.hid hA
   have Hx := Lib.hid hx
   have H65 := Lib.hid h65
   have Hbd : Hid (∀ y ∈ Vec.ends xv, Ver.Bd y) := Lib.hid (Vec.ends_bd (HOK.out.bd _ hxm))
   have HO1 := Lib.hid (fun (W : World) (hW : Below (wr.alloc (.cells (itV ⟨⟨y1, y2⟩, xv⟩).toArray 50)).heap.size (wr.alloc (.cells (itV ⟨⟨y1, y2⟩, xv⟩).toArray 50)) W) => hst.out.below (hA.trans (hW.mono hA.size)))
   have hn0 : (0 : Int) ≤ (n : Int) := by omega
   have hn1 : (n : Int) < (c.items.length : Int) := by omega
   have hn2 : (n : Int) ≤ 99999 := by omega
   have hone := Lib.hid (it_one ⟨⟨y1, y2⟩, xv⟩)
   clear hbr hA hbA FB hx hxm h65 hst
   go_wp2_with (first | refine wpList_mload (by rfl) _ (by rfl) (by rfl) LE.out ?_ | refine wpList_nstore (by rfl) _ _ (by rfl) (by rfl) (by rfl) HS.out.1 HS.out.2 hone.out ?_)
   refine (HV.out).mono ?_
   rintro e w4 ⟨fv, bc, bd, sv, uv, rfl, hv, hb4⟩
   have efv := hv.fv
   subst efv
   have V4 := Lib.hid (HFB.out.below hb4 Hbx.out).v0
   have EN := Lib.hid (V.ends (w := w4) H65.out)
   have HB4 := Lib.hid hb4
   have HHv := Lib.hid hv
   clear hv hb4 a0 a1 c0 HV LE
   go_wp2_with (refine wpList_mload (by rfl) _ (by rfl) (by rfl) V4.out ?_)
   refine (EN.out).mono ?_
   rintro e w5 ⟨s, rfl, hs, hb5⟩
   obtain ⟨A5, c5, e5, -⟩ := hs.parts
   subst e5
   have HEn := Lib.hid hs
   have HHv5 := Lib.hid (HHv.out.below hb5)
   have HB5 := Lib.hid (HB4.out.trans (hb5.mono HB4.out.size))
   have hel : ((Vec.ends xv).length : Int) ≤ 65 := by have := Vec.ends_short xv; omega
   clear hs hb5 EN V4 HHv
   go_wp2_with fail
   try go_step3
   try go_wp2_with fail
   go_loopw [5, 30] (fun s5 i W => ∃ m : Nat, m ≤ (Vec.ends xv).length ∧ i = .int .i64 (m : Int) ∧ Hid (∀ j y, j < m → (Vec.ends xv)[j]? = some y → Know.ByWhole c.frags ⟨y1, y2⟩ y f) ∧ Hid (Below w5.heap.size w5 W) ∧ Hid (RowsOwn 50 67 itV W2 (Know.needed c.frags f (c.items.take n)) s5 W)) (fun _ i _ => (Vec.ends xv).length - (intOf i).toNat)
   case atStart => exact ⟨0, Nat.zero_le _, rfl, Lib.hid (fun j y h => absurd h (Nat.not_lt_zero j)), Lib.hid (Below.refl _ _), Lib.hid (HO1.out w5 HB5.out)⟩
   case round =>
    obtain ⟨m, hm, rfl, hall, hb, hro⟩ := hrel
    by_cases hlt2 : m < (Vec.ends xv).length
    ·obtain ⟨b2, o2, cap2, e, -, -, hb2⟩ := HEn.out.block (by omega)
     injection e with e1 e2 e3
     subst e1 e3
     clear e2
     obtain ⟨⟨z1, z2⟩, hy⟩ : ∃ y, (Vec.ends xv)[m]? = some y := ⟨_, List.getElem?_eq_getElem hlt2⟩
     have hym := List.mem_of_getElem? hy
     obtain ⟨d0, d1⟩ := Vrs.at (Rws.below HEn.out hb.out) hy
     have hA : Below wr.heap.size wr (wr.alloc (.cells #[.int .i64 z1, .int .i64 z2] 27)) := (Below.refl _ _).alloc (Nat.le_refl _) _
     have r3 := Row.made wr 27 #[.int .i64 z1, .int .i64 z2]
     have f0 := r3.at 0
     have f1 := r3.at 1
     simp only [List.getElem?_toArray, List.getElem?_cons_zero, List.getElem?_cons_succ] at d0 d1 f0 f1
     have hbA := hb.out.trans (hA.mono hb.out.size)
     have hfil : (rs.filter fun r => !decide ((⟨y1, y2⟩ : Ver.V) ∈ r.x.no)).map (·.x) = c.frags.filter fun x => !decide ((⟨y1, y2⟩ : Ver.V) ∈ x.no) := by
      rw [← Hers.out, List.filter_map]; rfl
     have H2 := know_haver2 V C (HHv5.out.below hbA) ⟨z1, z2⟩ (Hbd.out _ hym) (by rw [hfil]; exact Nat.le_trans (Know.many_filter _ _) HOK.out.cl) (by have := List.length_filter_le (fun r : RFr => !decide ((⟨y1, y2⟩ : Ver.V) ∈ r.x.no)) rs; have := Hrl.out; omega) (fun r hr => HOK.out.sane r.x (by rw [← Hers.out]; exact List.mem_map.2 ⟨r, (List.mem_filter.1 hr).1, rfl⟩)) HO.out
     rw [hfil] at H2
     have hw := Know.far_whole c.frags ⟨y1, y2⟩ ⟨z1, z2⟩ f
     have HH2 := Lib.hid H2
     have HbA := Lib.hid hbA
     have HroA := Lib.hid (hro.out.below hA)
     have HyM := Lib.hid hy
     have hm0 : (0 : Int) ≤ (m : Int) := by omega
     have hm1 : (m : Int) < ((Vec.ends xv).length : Int) := by omega
     have hm2 : (m : Int) ≤ 99999 := by omega
     clear H2 hfil hbA hA r3 hym hy
     by_cases hbw : Know.ByWhole c.frags ⟨y1, y2⟩ ⟨z1, z2⟩ f
     ·rw [decide_eq_true (hw.1 hbw)] at HH2
      have HAll : Hid (∀ j y, j < m + 1 → (Vec.ends xv)[j]? = some y → Know.ByWhole c.frags ⟨y1, y2⟩ y f) := Lib.hid (fun j y hj hy => by
       by_cases e : j = m
       ·subst e
        rw [HyM.out] at hy
        injection hy with hy
        rw [← hy]; exact hbw
       ·exact hall.out j y (by omega) hy)
      clear hw hbw hall
      go_wp2_with fail
      refine (HH2.out).mono ?_
      rintro e w6 ⟨rfl, h6⟩
      have HB6 := Lib.hid (HbA.out.trans (h6.mono HbA.out.size))
      have HR6 := Lib.hid (HroA.out.below h6)
      clear h6 d0 d1 f0 f1
      go_wp2_with fail
      exact ⟨⟨m + 1, by omega, by go_num, HAll, HB6, HR6⟩, by show (Vec.ends xv).length - ((m : Int) + 1).toNat < (Vec.ends xv).length - (m : Int).toNat; omega⟩
     ·rw [decide_eq_false (fun q => hbw (hw.2 q))] at HH2
      have HNs : Hid (¬ Know.Spare c.frags f ⟨⟨y1, y2⟩, xv⟩) := Lib.hid (fun q => hbw (q _ (List.mem_of_getElem? HyM.out)))
      have HNx : Hid (Know.needed c.frags f (c.items.take (n + 1)) = Know.needed c.frags f (c.items.take n) ++ [⟨⟨y1, y2⟩, xv⟩]) := Lib.hid (by rw [Know.needed_more Hx.out, if_neg HNs.out])
      have HNl : Hid ((Know.needed c.frags f (c.items.take n)).length ≤ 1000) := Lib.hid (by have h1 := Know.needed_len c.frags f c.items n; have h2 := HOK.out.it; omega)
      clear hw hbw hall
      go_wp2_with fail
      refine (HH2.out).mono ?_
      rintro e w6 ⟨rfl, h6⟩
      have hb6 := HbA.out.trans (h6.mono HbA.out.size)
      have hb7 := HB5.out.trans (hb6.mono HB5.out.size)
      have HRO := Lib.hid (HroA.out.below h6)
      have L6 := Lib.hid (HFB.out.below hb7 Hbx.out).all
      have OJ := HRO.out.1
      have OR1 := it_made1 w6 50 ⟨⟨y1, y2⟩, xv⟩
      have hsz : (itV ⟨⟨y1, y2⟩, xv⟩).length = 67 := it_len H65.out
      have hws := HRO.out.2.size
      clear h6 d0 d1 f0 f1 hb6 hb7
      go_wp2_with (first | refine wpList_mload (by rfl) _ (by rfl) (by rfl) L6.out ?_ | refine wpList_build1 rfl 23 50 _ rfl (by rfl) Tryz.underlying23 hi1 hy0 hy1 hsz ?_ | (at_builtin; refine wp_joins (f := itV) (k := 67) rfl _ _ 23 rfl W2.heap.size 50 i1 (itA itZ) 536 Tryz.underlying23 hi1 hy0 hy1 hy2 itZ_size (by decide) rfl rfl (OJ.alloc _) OR1 ?d1 ?d2 ?d3 ?d4 ?d5 ?_))
      try (case d1 => (intro x hx; rw [List.mem_singleton.1 hx]; exact hsz))
      try (case d2 => first | exact it_one _ | (intro x hx; rw [List.mem_singleton.1 hx]; exact it_one _))
      try (case d3 => (have h1 := HNl.out; have h2 : [(⟨⟨y1, y2⟩, xv⟩ : Know.It)].length = 1 := rfl; unfold maxLen; omega))
      try (case d4 => (have h1 := HNl.out; have h2 : [(⟨⟨y1, y2⟩, xv⟩ : Know.It)].length = 1 := rfl; omega))
      try (case d5 => (first | omega | exact Nat.le_succ_of_le hws | (rw [World.size_alloc]; exact Nat.le_succ_of_le hws)))
      intro v3 w3 own3 hg3 hn3
      have M3 := HRO.out.more (x := (⟨⟨y1, y2⟩, xv⟩ : Know.It)) (by simpa using own3) hg3
      have H3 : Hid (RowsOwn 50 67 itV W2 (Know.needed c.frags f (c.items.take (n + 1))) v3 w3) := Lib.hid (by rw [HNx.out]; exact M3)
      clear own3 hg3 hn3 OJ OR1 M3
      go_wp2_with fail
      exact ⟨⟨n + 1, by omega, by go_num, H3⟩, by show c.items.length - ((n : Int) + 1).toNat < c.items.length - (n : Int).toNat; omega⟩
    ·obtain rfl : m = (Vec.ends xv).length := by omega
     have HSp : Hid (Know.Spare c.frags f ⟨⟨y1, y2⟩, xv⟩) := Lib.hid (fun y hy => by
      obtain ⟨j, hj⟩ := List.getElem?_of_mem hy
      exact hall.out j y (List.getElem?_eq_some_iff.1 hj).1 hj)
     have H3 : Hid (RowsOwn 50 67 itV W2 (Know.needed c.frags f (c.items.take (n + 1))) _ wr) := Lib.hid (by rw [Know.needed_more Hx.out, if_pos HSp.out, List.append_nil]; exact hro.out)
     clear hall
     go_wp2_with fail
     exact ⟨⟨n + 1, by omega, by go_num, H3⟩, by show c.items.length - ((n : Int) + 1).toNat < c.items.length - (n : Int).toNat; omega⟩
  ·obtain rfl : n = c.items.length := by omega
   have hO := hst.out
   rw [List.take_length] at hO
   have hLn : ∀ i ∈ Know.needed c.frags f c.items, i.v.length = 65 := fun i hi => HIts.out.2 i (List.mem_filter.1 hi).1
   have HIt : Its wr AnyB _ (Know.needed c.frags f c.items) := ⟨(hO.rows (fun i hi => it_len (hLn i hi))).mono (fun _ _ => trivial), hLn⟩
   obtain ⟨A5, c5, e5, -⟩ := HIt.1.parts
   subst e5
   have K5 : KnNew W0 (.agg #[.slice A1 m1 cp1, .slice A5 (Know.needed c.frags f c.items).length c5]) ⟨c.frags, Know.needed c.frags f c.items⟩ wr := ⟨_, _, rs, rfl, Hers.out, Rws.below HRs.out hO.2, fun r hr => (HIn.out r hr).below hO.2, HIt⟩
   have hP := HP2.out.below hO.2 HP2.out.inHeap
   have hQ := (HQ2.out.below hO.2 HQ2.out.inHeap).at 0
   simp only [List.getElem?_toArray, List.getElem?_cons_zero] at hQ
   have KE := kn_end (b := w.heap.size + 1) K5 hP HS0.out.2 (HB2.out.trans (hO.2.mono HB2.out.size)) (Nat.le_succ _)
   have T9 := Lib.hid KE.1
   have R9 := Lib.hid KE.2.1
   have K9 := Lib.hid KE.2.2.1
   have B9 := Lib.hid KE.2.2.2
   have HCm := Lib.hid (Know.compact_of (f := f) HC.out)
   clear KE K5 hP hO HIt hst hLn
   go_wp2_with (refine wpList_mstore (by rfl) (.tmp 4) (.tmp 47) (by rfl) (by rfl) (by rfl) T9.out (knSize _ _) (two_one rfl rfl) ?_)
   try rw [Exit.noGoto_ret]
   exact bodyPost_ret (v := .agg #[.slice A1 m1 cp1, .slice A5 (Know.needed c.frags f c.items).length c5]) (results_cell_row (by rfl) _ _ (w.heap.size + 1) 25 _ (0, 0) _ (by rfl) R9.out Tryz.underlying25 rfl (knSizeA _ _)) rfl ⟨_, _, rfl, HCm.out, K9.out, B9.out⟩
end Go.Proofs.YtpmolinmopgbdaaGreat
namespace Go.Proofs.YtpmolinmopgbdaaGreat
open Go.RowKit
theorem kn_hand {p : Know.K → Prop} {w w' : World} {e : Ending} (h : ∃ v' c, e = .returned v' ∧ p c ∧ KnNew w v' c w' ∧ Below w.heap.size w w') : ∃ v' c, e = .returned v' ∧ p c ∧ Kns w' AnyB v' c ∧ Below w.heap.size w w' := by
 obtain ⟨v', c, h1, h2, h3, h4⟩ := h
 exact ⟨v', c, h1, h2, h3.kns, h4⟩
theorem know_of (V : VecOk) (I : IsetOk) (C : CoverOk) (Z : FilterOk) : KnowOk where
 contains := fun item x h hf hk ho hx => know_contains V I C item x h hf hk ho hx
 canon := fun h hk => (know_canon V I C Z h hk).mono fun _ _ h => kn_hand h
 add := fun item x h hk hx => (know_add V I C Z item x h hk hx).mono fun _ _ h => kn_hand h
 grant := fun h hr hk => (know_grant V I C Z h hr hk).mono fun _ _ h => kn_hand h
 except := fun item h hk hk2 => (know_except V I C Z item h hk hk2).mono fun _ _ h => kn_hand h
 union := fun ha hb hk => (know_union V I C Z ha hb hk).mono fun _ _ h => kn_hand h
 compact := fun h hf hk ho => (know_compact V I C Z h hf hk ho).mono fun _ _ h => kn_hand h
 same := fun ha hb ka kb => (know_same V I C Z ha hb ka kb).mono fun _ _ h => ⟨h.1, h.2⟩
end Go.Proofs.YtpmolinmopgbdaaGreat
namespace Go.Proofs.YtpmolinmopgbdaaGreat
open Go.RowKit
namespace Tm
def raw (v : Value) : Option (DataW Value × List MemPlace) := some (.held v, [])
abbrev Pr := List UInt8 × Value
abbrev Fn := List UInt8 → Option Value
def ent (p : Pr) : Lit × DataW Value := (.string p.1, .held p.2)
def datum (l : List Pr) : DataW Value := .map (l.map ent)
theorem same (a b : List UInt8) : Lit.sameKey (.string a) (.string b) = decide (a = b) := by
 show (a == b) = _
 rw [Bool.eq_iff_iff]; simp
def Tells (l : List Pr) (m : Fn) : Prop := ∀ k, (l.find? fun p => decide (p.1 = k)) = (m k).map fun v => (k, v)
def insP (x : Pr) : List Pr → List Pr
 | [] => [x]
 | y :: r => if bytesBefore x.1 y.1 = true then x :: y :: r else y :: insP x r
theorem insert_map (x : Pr) : ∀ l : List Pr, DataW.insert (ent x) (l.map ent) = (insP x l).map ent
 | [] => rfl
 | y :: l => by
  rw [List.map_cons]
  unfold DataW.insert insP
  have e : (ent x).1.before (ent y).1 = bytesBefore x.1 y.1 := rfl
  rw [e, insert_map x l]
  split <;> rfl
theorem insP_len (x : Pr) : ∀ l : List Pr, (insP x l).length = l.length + 1
 | [] => rfl
 | y :: l => by
  unfold insP
  split
  ·rfl
  ·rw [List.length_cons, insP_len x l, List.length_cons]
theorem insP_find (x : Pr) (q : List UInt8) : ∀ l : List Pr, (∀ p ∈ l, p.1 ≠ x.1) → (insP x l).find? (fun p => decide (p.1 = q)) = if q = x.1 then some x else l.find? fun p => decide (p.1 = q)
 | [], _ => by
  unfold insP
  rw [List.find?_cons]
  by_cases h : q = x.1
  ·rw [if_pos h]; simp [h]
  ·rw [if_neg h]
   have : decide (x.1 = q) = false := decide_eq_false (fun e => h e.symm)
   rw [this]
 | y :: l, hl => by
  have hy := hl y (by simp)
  have ih := insP_find x q l (fun p hp => hl p (List.mem_cons_of_mem _ hp))
  unfold insP
  split
  ·rw [List.find?_cons]
   by_cases h : q = x.1
   ·rw [if_pos h]; simp [h]
   ·rw [if_neg h]
    have : decide (x.1 = q) = false := decide_eq_false (fun e => h e.symm)
    rw [this]
  ·rw [List.find?_cons, ih]
   by_cases h : q = x.1
   ·rw [if_pos h, if_pos h]
    have : decide (y.1 = q) = false := decide_eq_false (fun e => hy (by rw [e, h]))
    rw [this]
   ·rw [if_neg h, if_neg h, List.find?_cons]
def set (m : Fn) (k : List UInt8) (v : Value) : Fn := fun q => if q = k then some v else m q
theorem filter_ent (l : List Pr) (k : List UInt8) : (l.map ent).filter (fun p => !p.1.sameKey (.string k)) = (l.filter fun p => decide (p.1 ≠ k)).map ent := by
 rw [List.filter_map]
 congr 1
 apply List.filter_congr
 intro x _
 show (!(Lit.sameKey (.string x.1) (.string k))) = _
 rw [same, decide_not]
theorem find_filter (l : List Pr) (k q : List UInt8) (h : q ≠ k) : (l.filter fun p => decide (p.1 ≠ k)).find? (fun p => decide (p.1 = q)) = l.find? fun p => decide (p.1 = q) := by
 rw [List.find?_filter]
 congr 1
 funext p
 by_cases e : p.1 = q
 ·simp [e, h]
 ·simp [e]
theorem Tells.put {l : List Pr} {m : Fn} (h : Tells l m) (k : List UInt8) (v : Value) : Tells (insP (k, v) (l.filter fun p => decide (p.1 ≠ k))) (set m k v) := by
 intro q
 rw [insP_find _ _ _ (fun p hp => by simpa using (List.mem_filter.1 hp).2)]
 unfold set
 by_cases e : q = k
 ·subst e
  simp
 ·rw [if_neg e, if_neg e, find_filter _ _ _ e]
  exact h q
theorem datum_put (l : List Pr) (k : List UInt8) (v : Value) : (datum l).put (.string k) (.held v) = datum (insP (k, v) (l.filter fun p => decide (p.1 ≠ k))) := by
 show DataW.map (DataW.insert (ent (k, v)) ((l.map ent).filter fun p => !p.1.sameKey (.string k))) = _
 rw [filter_ent, insert_map]
 rfl
theorem datum_at {l : List Pr} {m : Fn} (h : Tells l m) (k : List UInt8) (z : DataW Value) : (datum l).atKey (.string k) z = (match m k with | some v => .held v | none => z) := by
 have e : (l.map ent).find? (fun p => p.1.sameKey (.string k)) = (l.find? fun p => decide (p.1 = k)).map ent := by
  rw [List.find?_map]
  congr 2
  funext x
  exact same x.1 k
 unfold datum DataW.atKey
 simp only [e]
 rw [h k]
 cases m k <;> rfl
theorem datum_has {l : List Pr} {m : Fn} (h : Tells l m) (k : List UInt8) : Maps.has (datum l) (.string k) = (m k).isSome := by
 have h1 : (m k).isSome = (l.find? fun p => decide (p.1 = k)).isSome := by rw [h k]; cases m k <;> rfl
 rw [h1]
 unfold datum
 rw [Maps.has_eq, List.any_map]
 rw [Bool.eq_iff_iff, List.any_eq_true, List.find?_isSome]
 constructor
 ·rintro ⟨x, hx, h⟩
  have h : (Lit.sameKey (.string x.1) (.string k)) = true := h
  rw [same] at h
  exact ⟨x, hx, h⟩
 ·rintro ⟨x, hx, h⟩
  refine ⟨x, hx, ?_⟩
  show (Lit.sameKey (.string x.1) (.string k)) = true
  rw [same]; exact h
theorem keyed : Go.Maps.Keyed Tryz.prog 9 := Go.Maps.string_keyed Tryz.underlying9
theorem key {k : ByteArray} (h : k.size ≤ 9223372036854775807) : keyOf Tryz.prog 9 (.string k) = some (.string k.data.toList) := Go.WideMaps.keyOf_string_mk Tryz.underlying9 h
theorem zero (w : World) : (zeroValue 87).run Tryz.prog w = .ok (.slice none 0 0) w := by kernel_rfl
end Tm
def TmAt (w : World) (bm : Nat) (m : Tm.Fn) (n : Nat) : Prop := ∃ l, Tm.Tells l m ∧ l.length ≤ n ∧ w.ownsMap Tryz.prog 9 Tm.raw bm l.length (Tm.datum l)
section
variable {w w' : World} {bm n : Nat} {m : Tm.Fn} {F G : Nat → Prop}
theorem tm_tight {l : List Tm.Pr} {k : Nat} (h : w.ownsMap Tryz.prog 9 Tm.raw bm k (Tm.datum l)) : w.ownsMap Tryz.prog 9 Tm.raw bm l.length (Tm.datum l) := by
 obtain ⟨es, clock, hb, hf, hs, hD⟩ := h
 refine ⟨es, clock, hb, hf, ?_, hD⟩
 have h1 : Maps.size (Tm.datum l) = es.size := by rw [hD]; simp [Maps.size, length_sorted]
 have h2 : Maps.size (Tm.datum l) = l.length := by unfold Tm.datum; rw [Maps.size_eq, List.length_map]
 omega
theorem TmAt.lt (h : TmAt w bm m n) : bm < w.heap.size := by
 obtain ⟨l, -, -, h⟩ := h
 exact World.ownsMap.lt h
theorem TmAt.kept (h : TmAt w bm m n) (k : Kept G w w') (hd : ¬ G bm) : TmAt w' bm m n := by
 have hl := h.lt
 obtain ⟨l, h1, h2, es, clock, hb, r⟩ := h
 exact ⟨l, h1, h2, es, clock, (k.block bm hl hd).trans hb, r⟩
theorem TmAt.below (h : TmAt w bm m n) (k : Below w.heap.size w w') : TmAt w' bm m n := h.kept (Kept.ofBelow k (fun _ => False)) (fun h => h)
theorem TmAt.made (w : World) : TmAt (w.alloc (.map #[] 0)) w.heap.size (fun _ => none) 0 := ⟨[], fun _ => rfl, Nat.le_refl _, World.ownsMap_made w _ _ _⟩
theorem TmAt.look (h : TmAt w bm m n) {k : List UInt8} (hk : k.length ≤ 9223372036854775807) :
  (Instr.lookup 147 (.map (some bm)) (.string (mk k)) true).run Tryz.prog w = .ok (.tuple #[(match m k with | some v => v | none => .slice none 0 0), .bool (m k).isSome]) w := by
 obtain ⟨l, ht, -, h⟩ := h
 obtain ⟨v', ps, h1, h2⟩ := World.ownsMap.look_ok h Tm.keyed Tryz.underlying147 (Tm.zero w) (zd := .held (.slice none 0 0)) (zp := []) rfl (Tm.key (k := mk k) (by rw [mk_len]; exact hk))
 rw [mk_data, Tm.datum_has ht] at h1
 rw [h1]
 rw [mk_data, Tm.datum_at ht] at h2
 unfold Tm.raw at h2
 have e := congrArg Prod.fst (Option.some.inj h2)
 cases hg : m k with
 | none => rw [hg] at e; have e : DataW.held v' = .held _ := e; injection e with e; rw [e]
 | some v => rw [hg] at e; have e : DataW.held v' = .held _ := e; injection e with e; rw [e]
theorem TmAt.put (h : TmAt w bm m n) (hn : n < 1000000000) {k : List UInt8} (hk : k.length ≤ 9223372036854775807) (v : Value) :
  ∃ w', (Instr.mapUpdate 147 (.map (some bm)) (.string (mk k)) v).run Tryz.prog w = .ok () w' ∧ TmAt w' bm (Tm.set m k v) (n + 1) ∧ w.grownBy w' (some bm) := by
 obtain ⟨l, ht, hl, h⟩ := h
 obtain ⟨w', h1, h2, h3⟩ := World.ownsMap.update h Tm.keyed Tryz.underlying147 (by unfold maxLen; omega) (Tm.key (k := mk k) (by rw [mk_len]; exact hk)) (val := v) (d := .held v) (ps := []) rfl
 rw [mk_data, Tm.datum_put] at h2
 refine ⟨w', h1, ⟨_, ht.put k v, ?_, tm_tight h2⟩, h3⟩
 rw [Tm.insP_len]
 have := List.length_filter_le (fun p : Tm.Pr => decide (p.1 ≠ k)) l
 omega
end
end Go.Proofs.YtpmolinmopgbdaaGreat
