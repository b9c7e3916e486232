import Derived.Test.YtpmolinmopgbdaaGreatCom31
import Derived.Test.YtpmolinmopgbdaaGreatCom34
import Derived.Test.YtpmolinmopgbdaaGreatCom5
import Derived.Test.YtpmolinmopgbdaaGreatCom9
import Derived.Test.YtpmolinmopgbdaaGreatCom33
import Derived.Test.YtpmolinmopgbdaaGreatCom11
import Derived.Test.YtpmolinmopgbdaaGreatCom12
import Derived.Test.YtpmolinmopgbdaaGreatCom22
import Derived.Test.YtpmolinmopgbdaaGreatCom3
import Derived.Test.YtpmolinmopgbdaaGreatCom2
import Derived.Test.YtpmolinmopgbdaaGreatCom18
import Derived.Test.YtpmolinmopgbdaaGreatCom17
import Derived.Test.YtpmolinmopgbdaaGreatCom4
import Derived.Test.YtpmolinmopgbdaaGreatCom8
import Derived.WalkMore
import Derived.StringKeys
import Derived.Maps.OwnSet
set_option maxRecDepth 100000
set_option linter.unusedVariables false
set_option linter.unusedSimpArgs false
set_option maxHeartbeats 12800000
namespace Go.Proofs.YtpmolinmopgbdaaGreat
open List renaming getElem_toArray → z1, getElem_cons_zero → z2, getElem_cons_succ → z3, setIfInBounds_toArray → z4, set_cons_zero → z5, set_cons_succ → z6
open Go.RowKit Go.Sort
theorem frs_eq {a b : List RFr} (ha : ∀ r ∈ a, r.x.v.length = 65) (hb : ∀ r ∈ b, r.x.v.length = 65) : FrsEq a b ↔ a.map (·.x) = b.map (·.x) := by
  have one : ∀ r s : RFr, r.x.v.length = 65 → s.x.v.length = 65 → (FrEq r s ↔ r.x = s.x) := by
    intro r s hr hs
    unfold FrEq
    rw [(Know.order_spec (hr.trans hs.symm)).2.1]
    obtain ⟨_, _, ⟨f, v, no⟩⟩ := r
    obtain ⟨_, _, ⟨g, u, mo⟩⟩ := s
    unfold Know.Keyd
    simp only [Know.Fr.mk.injEq]
    constructor
    · rintro ⟨⟨h1, h2⟩, h3⟩; exact ⟨h3, h1, h2⟩
    · rintro ⟨h3, h1, h2⟩; exact ⟨⟨h1, h2⟩, h3⟩
  constructor
  · rintro ⟨hl, h⟩
    refine List.ext_getElem? (fun i => ?_)
    rw [List.getElem?_map, List.getElem?_map]
    rcases Nat.lt_or_ge i a.length with hi | hi
    · rw [List.getElem?_eq_getElem hi, List.getElem?_eq_getElem (by omega : i < b.length)]
      have := (one _ _ (ha _ (List.getElem_mem hi)) (hb _ (List.getElem_mem (by omega : i < b.length)))).1 (h i _ _ (List.getElem?_eq_getElem hi) (List.getElem?_eq_getElem (by omega)))
      simp [this]
    · rw [List.getElem?_eq_none hi, List.getElem?_eq_none (by omega : b.length ≤ i)]
  · intro h
    refine ⟨by have := congrArg List.length h; rwa [List.length_map, List.length_map] at this, fun i r s h1 h2 => ?_⟩
    refine (one r s (ha r (List.mem_of_getElem? h1)) (hb s (List.mem_of_getElem? h2))).2 ?_
    have := congrArg (fun L => L[i]?) h
    simp only [List.getElem?_map, h1, h2, Option.map_some] at this
    injection this
theorem know_same (V : VecOk) (I : IsetOk) (C : CoverOk) (Z : FilterOk) {w : World} {F G : Nat → Prop} {v u : Value} {a b : Know.K} (ha : Kns w F v a) (hb : Kns w G u b) (ka : Know.Ok a) (kb : Know.Ok b) : Calls Tryz.prog 16 #[v, u] w fun e w' => Says e (∃ c, Know.Canon a c ∧ Know.Canon b c) ∧ Below w.heap.size w w' := by
  obtain ⟨a1, a2, rfl, hfa, hia⟩ := ha
  obtain ⟨b1, b2, rfl, hfb, hib⟩ := hb
  obtain ⟨A, ca, rfl, -⟩ := hfa.parts
  obtain ⟨B, cb, rfl, -⟩ := hia.1.parts
  obtain ⟨D, cd, rfl, -⟩ := hfb.parts
  obtain ⟨E, ce, rfl, -⟩ := hib.1.parts
  obtain ⟨W0, hW0⟩ : ∃ W0, W0 = (w.alloc (.cells #[.slice A a.frags.length ca, .slice B a.items.length cb] 25)).alloc (.cells #[.slice D b.frags.length cd, .slice E b.items.length ce] 25) := ⟨_, rfl⟩
  have hb0 : Below w.heap.size w W0 := by rw [hW0]; exact ((Below.refl _ _).alloc (Nat.le_refl _) _).alloc (by simp) _
  have r0 : Row W0 w.heap.size 25 #[.slice A a.frags.length ca, .slice B a.items.length cb] := by rw [hW0]; exact (Row.made w _ _).behindNew _
  have r1 : Row W0 (w.heap.size + 1) 25 #[.slice D b.frags.length cd, .slice E b.items.length ce] := by
    rw [hW0]
    have := Row.made (w.alloc (.cells #[.slice A a.frags.length ca, .slice B a.items.length cb] 25)) 25 #[.slice D b.frags.length cd, .slice E b.items.length ce]
    rwa [World.size_alloc] at this
  have XC := Lib.hid (fun (W : World) (h : InB W0 W) => (⟨(r0.below h.below r0.inHeap).at 0, (r0.below h.below r0.inHeap).at 1, (r1.below h.below r1.inHeap).at 0, (r1.below h.below r1.inHeap).at 1⟩ : W.cell? ⟨w.heap.size, 0, none⟩ = some (.slice A a.frags.length ca) ∧ W.cell? ⟨w.heap.size, 1, none⟩ = some (.slice B a.items.length cb) ∧ W.cell? ⟨w.heap.size + 1, 0, none⟩ = some (.slice D b.frags.length cd) ∧ W.cell? ⟨w.heap.size + 1, 1, none⟩ = some (.slice E b.items.length ce)))
  have R0 := Lib.hid (fun (W : World) (h : InB W0 W) => And.intro (r0.below h.below r0.inHeap) (r1.below h.below r1.inHeap))
  have HS0 : Hid (w.heap.size < W0.heap.size ∧ w.heap.size + 1 < W0.heap.size) := Lib.hid ⟨r0.inHeap, r1.inHeap⟩
  have CA := Lib.hid (fun (W : World) (h : InB W0 W) => know_canon V I C Z (w := W) (F := AnyB) (v := .agg #[.slice A a.frags.length ca, .slice B a.items.length cb]) ⟨_, _, rfl, ((hfa.below hb0).below h.below).any, ((hia.below hb0).below h.below).any⟩ ka)
  have CB := Lib.hid (fun (W : World) (h : InB W0 W) => know_canon V I C Z (w := W) (F := AnyB) (v := .agg #[.slice D b.frags.length cd, .slice E b.items.length ce]) ⟨_, _, rfl, ((hfb.below hb0).below h.below).any, ((hib.below hb0).below h.below).any⟩ kb)
  have KA := Lib.hid (fun c (h : Know.Canon a c) => Know.canon_ok ka h)
  have KB := Lib.hid (fun c (h : Know.Canon b c) => Know.canon_ok kb h)
  have HB0 := Lib.hid hb0
  clear hfa hia hfb hib ka kb hb0 r0 r1
  go_enter Tryz.func16, Tryz.ntmps16
  go_wp2_with fail
  rw [← hW0]
  clear hW0
  refine wp_region_tail (n := 4) (S := (fun w' : World => InB W0 w')) (by kernel_rfl) (by kernel_rfl) (by rfl) ((InB.refl W0).drew) (fun hHeld => ?_)
  refine wpAnyH_tk (i := 0) (v := ?_) rfl (Or.inl ⟨by rfl, (by intro w hSw; obtain ⟨c0, c1, c2, c3⟩ := XC.out _ hSw; go_simp; try with_reducible rfl)⟩) (by assumption) ?_
  simp only [Act.put, z1, z2, z3, z4, z5, z6]
  refine wpAnyH_tk (i := 2) (v := ?_) rfl (Or.inl ⟨by rfl, (by intro w hSw; obtain ⟨c0, c1, c2, c3⟩ := XC.out _ hSw; go_simp; try with_reducible rfl)⟩) (by assumption) ?_
  simp only [Act.put, z1, z2, z3, z4, z5, z6]
  refine wpAnyH_ready (rs := [1]) (by kernel_rfl) (by simp) ?_
  refine AllReadyH.cons rfl (fun K hK => ?_) AllReadyH.nil
  go_simp
  go_at_call 11
  refine (CA.out _ hHeld).mono ?_
  rintro e w1 ⟨v1, cA, rfl, hc, hk, hb⟩
  obtain ⟨A1, m1, e1, B1, n1, d1, rfl⟩ := hk.parts
  have HL1 := Lib.hid hHeld.below.size
  have S1 := InB.trans hHeld hb
  have HCA := Lib.hid hc
  have KA1 := Lib.hid hk
  refine hK.out _ _ S1 (fun hHeld => ?_)
  clear S1 hb hk hc
  clear hK K
  refine wpAnyH_ready (rs := [3]) (by kernel_rfl) (by simp) ?_
  refine AllReadyH.cons rfl (fun K hK => ?_) AllReadyH.nil
  go_simp
  go_at_call 11
  refine (CB.out _ hHeld).mono ?_
  rintro e w3 ⟨v3, cB, rfl, hc, hk, hb⟩
  obtain ⟨A2, m2, e2, B2, n2, d2, rfl⟩ := hk.parts
  have S3 := InB.trans hHeld hb
  have HL3 := Lib.hid hHeld.below.size
  have HCB := Lib.hid hc
  have KB3 := Lib.hid hk
  obtain ⟨p1, p2, rs, q1, q2, q3, q4, q5⟩ := KA1.out
  have KA3 : Hid (KnNew W0.drew (.agg #[Value.slice A1 m1 e1, Value.slice B1 n1 d1]) cA w3) := Lib.hid ⟨p1, p2, rs, q1, q2, Rws.below q3 hb, fun r hr => (q4 r hr).below hb, q5.below hb⟩
  clear q1 q2 q3 q4 q5
  have T3 := Lib.hid (Row.there2 (R0.out _ S3).1)
  have RR := (R0.out _ S3)
  have K4a := Lib.hid (kn_kept KA3.out RR.1 (HS0.out.1) (Value.slice A1 m1 e1) (Value.slice B1 n1 d1))
  have K4b := Lib.hid (kn_kept KB3.out RR.1 (Nat.lt_of_lt_of_le HS0.out.1 HL3.out) (Value.slice A1 m1 e1) (Value.slice B1 n1 d1))
  have R4a := Lib.hid (Row.put2 RR.1 (Value.slice A1 m1 e1) (Value.slice B1 n1 d1))
  have R4b := Lib.hid (row_kept2 RR.2 (Nat.ne_of_lt (Nat.lt_succ_self _)) (Value.slice A1 m1 e1) (Value.slice B1 n1 d1))
  have T4 := Lib.hid (Row.there2 R4b.out)
  have KA5 := Lib.hid (kn_kept K4a.out R4b.out HS0.out.2 (Value.slice A2 m2 e2) (Value.slice B2 n2 d2))
  have KB5 := Lib.hid (kn_kept K4b.out R4b.out (Nat.lt_of_lt_of_le HS0.out.2 HL3.out) (Value.slice A2 m2 e2) (Value.slice B2 n2 d2))
  have RA5 := Lib.hid (row_kept2 R4a.out (Nat.ne_of_gt (Nat.lt_succ_self _)) (Value.slice A2 m2 e2) (Value.slice B2 n2 d2))
  have RB5 := Lib.hid (Row.put2 R4b.out (Value.slice A2 m2 e2) (Value.slice B2 n2 d2))
  have B3 := HB0.out.trans (S3.below.mono HB0.out.size)
  have B4 := put2_below B3 B3.size (b := w.heap.size) (Nat.le_refl _) (Value.slice A1 m1 e1) (Value.slice B1 n1 d1)
  have B5 := Lib.hid (put2_below B4 B4.size (b := w.heap.size + 1) (Nat.le_succ _) (Value.slice A2 m2 e2) (Value.slice B2 n2 d2))
  clear RR B3 B4
  refine hK.out _ _ S3 (fun hHeld => ?_)
  clear S3 hb hk hc
  clear hK K
  refine wpAnyH_done (by kernel_rfl) ?_ _
  refine wpAny_of_held (S := fun _ => True) _ _ _ _ ?_
  have hHeld : True := trivial
  refine wpAnyH_ready (rs := [4]) (by kernel_rfl) (by simp) ?_
  refine AllReadyH.cons rfl (fun K hK => ?_) AllReadyH.nil
  refine step_mstore (.tmp 2) (.tmp 6) rfl (by rfl) (by rfl) (by rfl) T3.out (knSize _ _) (two_one rfl rfl) ?_
  refine hK.out _ _ trivial (fun hHeld => ?_)
  clear hK K
  refine wpAnyH_ready (rs := [5]) (by kernel_rfl) (by simp) ?_
  refine AllReadyH.cons rfl (fun K hK => ?_) AllReadyH.nil
  refine step_mstore (.tmp 3) (.tmp 8) rfl (by rfl) (by rfl) (by rfl) T4.out (knSize _ _) (two_one rfl rfl) ?_
  refine hK.out _ _ trivial (fun hHeld => ?_)
  clear hK K
  refine wpAnyH_done (by kernel_rfl) ?_ _
  generalize (w3.setCells w.heap.size 0 [Value.slice A1 m1 e1, Value.slice B1 n1 d1]).setCells (w.heap.size + 1) 0 [Value.slice A2 m2 e2, Value.slice B2 n2 d2] = W5 at *
  obtain ⟨p1, p2, ra, e1, ea, h1, h2, h3⟩ := KA5.out
  obtain ⟨q1, q2, rb, e2, eb, g1, g2, g3⟩ := KB5.out
  injection e1 with e1
  injection e2 with e2
  simp only [Array.mk.injEq, List.cons.injEq, and_true] at e1 e2
  obtain ⟨rfl, rfl⟩ := e1
  obtain ⟨rfl, rfl⟩ := e2
  have okA := KA.out _ HCA.out
  have okB := KB.out _ HCB.out
  have hma : ∀ r ∈ ra, r.x ∈ cA.frags := fun r hr => by rw [← ea]; exact List.mem_map.2 ⟨r, hr, rfl⟩
  have hmb : ∀ r ∈ rb, r.x ∈ cB.frags := fun r hr => by rw [← eb]; exact List.mem_map.2 ⟨r, hr, rfl⟩
  have big : ∀ {k : Know.K} {x : Know.Fr}, Know.Ok k → x ∈ k.frags → x.f.length ≤ 100000 := fun hk hx => (Know.ok_cov hk hx).1
  have lra : ra.length ≤ 99999 := by have := okA.fr; rw [← ea, List.length_map] at this; omega
  have IE := Lib.hid (it_equal h3 g3 (by have := okA.it; omega) (by have := okB.it; omega))
  have FE := Lib.hid (fun (W : World) (hW : Below W5.heap.size W5 W) => fr_equals Z (Rws.below h1 hW) (Rws.below g1 hW) (fun r hr => (h2 r hr).below hW) (fun r hr => (g2 r hr).below hW) lra (fun r hr => Nat.le_trans (okA.no _ (hma r hr)) (by decide)) (fun r hr => Nat.le_trans (okB.no _ (hmb r hr)) (by decide)) (fun r hr => big okA (hma r hr)) (fun r hr => big okB (hmb r hr)))
  have HEQ : Hid ((∃ c, Know.Canon a c ∧ Know.Canon b c) ↔ cA.items = cB.items ∧ FrsEq ra rb) := Lib.hid (by
    rw [frs_eq (fun r hr => okA.len _ (hma r hr)) (fun r hr => okB.len _ (hmb r hr)), ea, eb]
    constructor
    · rintro ⟨c, k1, k2⟩
      have q1 := Know.canon_one HCA.out k1 (fun _ => Iff.rfl) (fun _ => Iff.rfl)
      have q2 := Know.canon_one HCB.out k2 (fun _ => Iff.rfl) (fun _ => Iff.rfl)
      rw [q1, q2]; exact ⟨rfl, rfl⟩
    · rintro ⟨h1, h2⟩
      refine ⟨cA, HCA.out, ?_⟩
      have e : cA = cB := by
        cases cA; cases cB
        simp only at h1 h2
        rw [h1, h2]
      rw [e]; exact HCB.out)
  obtain ⟨A6, a6, eA6, -⟩ := h1.parts
  obtain ⟨B6, b6, eB6, -⟩ := g1.parts
  injection eA6 with eA1 eA2 eA3
  injection eB6 with eB1 eB2 eB3
  subst eA1 eA2 eA3 eB1 eB2 eB3
  have cc0 := RA5.out.at 0
  have cc1 := RA5.out.at 1
  have cc2 := RB5.out.at 0
  have cc3 := RB5.out.at 1
  simp only [List.getElem?_toArray, List.getElem?_cons_zero, List.getElem?_cons_succ] at cc0 cc1 cc2 cc3
  clear h1 h2 h3 g1 g2 g3 okA okB hma hmb big lra ea eb CA CB XC R0
  have XK := Lib.hid (fun (W : World) (hW : Below W5.heap.size W5 W) => (⟨(RA5.out.below hW RA5.out.inHeap).at 0, (RB5.out.below hW RB5.out.inHeap).at 0⟩ : _ ∧ _))
  by_cases hi : cA.items = cB.items
  · rw [decide_eq_true hi] at IE
    have HQ : Hid ((∃ c, Know.Canon a c ∧ Know.Canon b c) ↔ FrsEq ra rb) := Lib.hid (HEQ.out.trans ⟨fun h => h.2, fun h => ⟨hi, h⟩⟩)
    clear hi
    go_wp2_with fail
    refine (IE.out).mono ?_
    rintro e w6 ⟨rfl, h6⟩
    have HB6 := Lib.hid (B5.out.trans (h6.mono B5.out.size))
    have FE6 := Lib.hid (FE.out w6 h6)
    obtain ⟨d0, d1⟩ := XK.out w6 h6
    simp only [List.getElem?_toArray, List.getElem?_cons_zero] at d0 d1
    clear h6 cc0 cc1 cc2 cc3 FE XK IE
    go_wp2_with fail
    refine (FE6.out).mono ?_
    rintro e w7 ⟨⟨t, rfl, ht⟩, h7⟩
    have HB7 := Lib.hid (HB6.out.trans (h7.mono HB6.out.size))
    have HT := Lib.hid (ht.trans HQ.out.symm)
    clear h7 ht d0 d1
    go_wp2_with fail
    go_ret
    exact ⟨⟨t, rfl, HT.out⟩, HB7.out⟩
  · rw [decide_eq_false hi] at IE
    have HQ : Hid (¬ (∃ c, Know.Canon a c ∧ Know.Canon b c)) := Lib.hid (fun h => hi (HEQ.out.1 h).1)
    clear hi FE
    go_wp2_with fail
    refine (IE.out).mono ?_
    rintro e w6 ⟨rfl, h6⟩
    have HB6 := Lib.hid (B5.out.trans (h6.mono B5.out.size))
    clear h6 cc0 cc1 cc2 cc3
    go_wp2_with fail
    go_ret
    exact ⟨Says.no HQ.out, HB6.out⟩
end Go.Proofs.YtpmolinmopgbdaaGreat
namespace Go.Proofs.YtpmolinmopgbdaaGreat
open Go.RowKit Go.Sort
instance dec_whole_cmp (l : List Know.Fr) (item v : Ver.V) (f : List Flt.Cl) : Decidable (Know.ByWhole l item v f) := inferInstanceAs (Decidable (_ ∧ _))
instance dec_spare_cmp (l : List Know.Fr) (f : List Flt.Cl) (i : Know.It) : Decidable (Know.Spare l f i) := inferInstanceAs (Decidable (∀ y ∈ _, _))
end Go.Proofs.YtpmolinmopgbdaaGreat
namespace Go.Proofs.YtpmolinmopgbdaaGreat
open Go.RowKit
theorem kn_hand {p : Know.K → Prop} {w w' : World} {e : Ending} (h : ∃ v' c, e = .returned v' ∧ p c ∧ KnNew w v' c w' ∧ Below w.heap.size w w') : ∃ v' c, e = .returned v' ∧ p c ∧ Kns w' AnyB v' c ∧ Below w.heap.size w w' := by
  obtain ⟨v', c, h1, h2, h3, h4⟩ := h
  exact ⟨v', c, h1, h2, h3.kns, h4⟩
theorem know_of (V : VecOk) (I : IsetOk) (C : CoverOk) (Z : FilterOk) : KnowOk where
  contains := fun item x h hf hk ho hx => know_contains V I C item x h hf hk ho hx
  canon := fun h hk => (know_canon V I C Z h hk).mono fun _ _ h => kn_hand h
  add := fun item x h hk hx => (know_add V I C Z item x h hk hx).mono fun _ _ h => kn_hand h
  grant := fun h hr hk => (know_grant V I C Z h hr hk).mono fun _ _ h => kn_hand h
  except := fun item h hk hk2 => (know_except V I C Z item h hk hk2).mono fun _ _ h => kn_hand h
  union := fun ha hb hk => (know_union V I C Z ha hb hk).mono fun _ _ h => kn_hand h
  same := fun ha hb ka kb => (know_same V I C Z ha hb ka kb).mono fun _ _ h => ⟨h.1, h.2⟩
end Go.Proofs.YtpmolinmopgbdaaGreat
namespace Go.Proofs.YtpmolinmopgbdaaGreat
open Go.RowKit
namespace Tm
def raw (v : Value) : Option (DataW Value × List MemPlace) := some (.held v, [])
abbrev Pr := List UInt8 × Value
abbrev Fn := List UInt8 → Option Value
def ent (p : Pr) : Lit × DataW Value := (.string p.1, .held p.2)
def datum (l : List Pr) : DataW Value := .map (l.map ent)
theorem same (a b : List UInt8) : Lit.sameKey (.string a) (.string b) = decide (a = b) := by
  show (a == b) = _
  rw [Bool.eq_iff_iff]; simp
def Tells (l : List Pr) (m : Fn) : Prop := ∀ k, (l.find? fun p => decide (p.1 = k)) = (m k).map fun v => (k, v)
def insP (x : Pr) : List Pr → List Pr
  | [] => [x]
  | y :: r => if bytesBefore x.1 y.1 = true then x :: y :: r else y :: insP x r
theorem insert_map (x : Pr) : ∀ l : List Pr, DataW.insert (ent x) (l.map ent) = (insP x l).map ent
  | [] => rfl
  | y :: l => by
    rw [List.map_cons]
    unfold DataW.insert insP
    have e : (ent x).1.before (ent y).1 = bytesBefore x.1 y.1 := rfl
    rw [e, insert_map x l]
    split <;> rfl
theorem insP_len (x : Pr) : ∀ l : List Pr, (insP x l).length = l.length + 1
  | [] => rfl
  | y :: l => by
    unfold insP
    split
    · rfl
    · rw [List.length_cons, insP_len x l, List.length_cons]
theorem insP_find (x : Pr) (q : List UInt8) : ∀ l : List Pr, (∀ p ∈ l, p.1 ≠ x.1) → (insP x l).find? (fun p => decide (p.1 = q)) = if q = x.1 then some x else l.find? fun p => decide (p.1 = q)
  | [], _ => by
    unfold insP
    rw [List.find?_cons]
    by_cases h : q = x.1
    · rw [if_pos h]; simp [h]
    · rw [if_neg h]
      have : decide (x.1 = q) = false := decide_eq_false (fun e => h e.symm)
      rw [this]
  | y :: l, hl => by
    have hy := hl y (by simp)
    have ih := insP_find x q l (fun p hp => hl p (List.mem_cons_of_mem _ hp))
    unfold insP
    split
    · rw [List.find?_cons]
      by_cases h : q = x.1
      · rw [if_pos h]; simp [h]
      · rw [if_neg h]
        have : decide (x.1 = q) = false := decide_eq_false (fun e => h e.symm)
        rw [this]
    · rw [List.find?_cons, ih]
      by_cases h : q = x.1
      · rw [if_pos h, if_pos h]
        have : decide (y.1 = q) = false := decide_eq_false (fun e => hy (by rw [e, h]))
        rw [this]
      · rw [if_neg h, if_neg h, List.find?_cons]
def set (m : Fn) (k : List UInt8) (v : Value) : Fn := fun q => if q = k then some v else m q
theorem filter_ent (l : List Pr) (k : List UInt8) : (l.map ent).filter (fun p => !p.1.sameKey (.string k)) = (l.filter fun p => decide (p.1 ≠ k)).map ent := by
  rw [List.filter_map]
  congr 1
  apply List.filter_congr
  intro x _
  show (!(Lit.sameKey (.string x.1) (.string k))) = _
  rw [same, decide_not]
theorem find_filter (l : List Pr) (k q : List UInt8) (h : q ≠ k) : (l.filter fun p => decide (p.1 ≠ k)).find? (fun p => decide (p.1 = q)) = l.find? fun p => decide (p.1 = q) := by
  rw [List.find?_filter]
  congr 1
  funext p
  by_cases e : p.1 = q
  · simp [e, h]
  · simp [e]
theorem Tells.put {l : List Pr} {m : Fn} (h : Tells l m) (k : List UInt8) (v : Value) : Tells (insP (k, v) (l.filter fun p => decide (p.1 ≠ k))) (set m k v) := by
  intro q
  rw [insP_find _ _ _ (fun p hp => by simpa using (List.mem_filter.1 hp).2)]
  unfold set
  by_cases e : q = k
  · subst e
    simp
  · rw [if_neg e, if_neg e, find_filter _ _ _ e]
    exact h q
theorem datum_put (l : List Pr) (k : List UInt8) (v : Value) : (datum l).put (.string k) (.held v) = datum (insP (k, v) (l.filter fun p => decide (p.1 ≠ k))) := by
  show DataW.map (DataW.insert (ent (k, v)) ((l.map ent).filter fun p => !p.1.sameKey (.string k))) = _
  rw [filter_ent, insert_map]
  rfl
theorem datum_at {l : List Pr} {m : Fn} (h : Tells l m) (k : List UInt8) (z : DataW Value) : (datum l).atKey (.string k) z = (match m k with | some v => .held v | none => z) := by
  have e : (l.map ent).find? (fun p => p.1.sameKey (.string k)) = (l.find? fun p => decide (p.1 = k)).map ent := by
    rw [List.find?_map]
    congr 2
    funext x
    exact same x.1 k
  unfold datum DataW.atKey
  simp only [e]
  rw [h k]
  cases m k <;> rfl
theorem datum_has {l : List Pr} {m : Fn} (h : Tells l m) (k : List UInt8) : Maps.has (datum l) (.string k) = (m k).isSome := by
  have h1 : (m k).isSome = (l.find? fun p => decide (p.1 = k)).isSome := by rw [h k]; cases m k <;> rfl
  rw [h1]
  unfold datum
  rw [Maps.has_eq, List.any_map]
  rw [Bool.eq_iff_iff, List.any_eq_true, List.find?_isSome]
  constructor
  · rintro ⟨x, hx, h⟩
    have h : (Lit.sameKey (.string x.1) (.string k)) = true := h
    rw [same] at h
    exact ⟨x, hx, h⟩
  · rintro ⟨x, hx, h⟩
    refine ⟨x, hx, ?_⟩
    show (Lit.sameKey (.string x.1) (.string k)) = true
    rw [same]; exact h
theorem keyed : Go.Maps.Keyed Tryz.prog 9 := Go.Maps.string_keyed Tryz.underlying9
theorem key {k : ByteArray} (h : k.size ≤ 9223372036854775807) : keyOf Tryz.prog 9 (.string k) = some (.string k.data.toList) := Go.WideMaps.keyOf_string_mk Tryz.underlying9 h
theorem zero (w : World) : (zeroValue 87).run Tryz.prog w = .ok (.slice none 0 0) w := by kernel_rfl
end Tm
def TmAt (w : World) (bm : Nat) (m : Tm.Fn) (n : Nat) : Prop := ∃ l, Tm.Tells l m ∧ l.length ≤ n ∧ w.ownsMap Tryz.prog 9 Tm.raw bm l.length (Tm.datum l)
section
variable {w w' : World} {bm n : Nat} {m : Tm.Fn} {F G : Nat → Prop}
theorem tm_tight {l : List Tm.Pr} {k : Nat} (h : w.ownsMap Tryz.prog 9 Tm.raw bm k (Tm.datum l)) : w.ownsMap Tryz.prog 9 Tm.raw bm l.length (Tm.datum l) := by
  obtain ⟨es, clock, hb, hf, hs, hD⟩ := h
  refine ⟨es, clock, hb, hf, ?_, hD⟩
  have h1 : Maps.size (Tm.datum l) = es.size := by rw [hD]; simp [Maps.size, length_sorted]
  have h2 : Maps.size (Tm.datum l) = l.length := by unfold Tm.datum; rw [Maps.size_eq, List.length_map]
  omega
theorem TmAt.lt (h : TmAt w bm m n) : bm < w.heap.size := by
  obtain ⟨l, -, -, h⟩ := h
  exact World.ownsMap.lt h
theorem TmAt.kept (h : TmAt w bm m n) (k : Kept G w w') (hd : ¬ G bm) : TmAt w' bm m n := by
  have hl := h.lt
  obtain ⟨l, h1, h2, es, clock, hb, r⟩ := h
  exact ⟨l, h1, h2, es, clock, (k.block bm hl hd).trans hb, r⟩
theorem TmAt.below (h : TmAt w bm m n) (k : Below w.heap.size w w') : TmAt w' bm m n := h.kept (Kept.ofBelow k (fun _ => False)) (fun h => h)
theorem TmAt.made (w : World) : TmAt (w.alloc (.map #[] 0)) w.heap.size (fun _ => none) 0 := ⟨[], fun _ => rfl, Nat.le_refl _, World.ownsMap_made w _ _ _⟩
theorem TmAt.look (h : TmAt w bm m n) {k : List UInt8} (hk : k.length ≤ 9223372036854775807) :
    (Instr.lookup 147 (.map (some bm)) (.string (mk k)) true).run Tryz.prog w = .ok (.tuple #[(match m k with | some v => v | none => .slice none 0 0), .bool (m k).isSome]) w := by
  obtain ⟨l, ht, -, h⟩ := h
  obtain ⟨v', ps, h1, h2⟩ := World.ownsMap.look_ok h Tm.keyed Tryz.underlying147 (Tm.zero w) (zd := .held (.slice none 0 0)) (zp := []) rfl (Tm.key (k := mk k) (by rw [mk_len]; exact hk))
  rw [mk_data, Tm.datum_has ht] at h1
  rw [h1]
  rw [mk_data, Tm.datum_at ht] at h2
  unfold Tm.raw at h2
  have e := congrArg Prod.fst (Option.some.inj h2)
  cases hg : m k with
  | none => rw [hg] at e; have e : DataW.held v' = .held _ := e; injection e with e; rw [e]
  | some v => rw [hg] at e; have e : DataW.held v' = .held _ := e; injection e with e; rw [e]
theorem TmAt.put (h : TmAt w bm m n) (hn : n < 1000000000) {k : List UInt8} (hk : k.length ≤ 9223372036854775807) (v : Value) :
    ∃ w', (Instr.mapUpdate 147 (.map (some bm)) (.string (mk k)) v).run Tryz.prog w = .ok () w' ∧ TmAt w' bm (Tm.set m k v) (n + 1) ∧ w.grownBy w' (some bm) := by
  obtain ⟨l, ht, hl, h⟩ := h
  obtain ⟨w', h1, h2, h3⟩ := World.ownsMap.update h Tm.keyed Tryz.underlying147 (by unfold maxLen; omega) (Tm.key (k := mk k) (by rw [mk_len]; exact hk)) (val := v) (d := .held v) (ps := []) rfl
  rw [mk_data, Tm.datum_put] at h2
  refine ⟨w', h1, ⟨_, ht.put k v, ?_, tm_tight h2⟩, h3⟩
  rw [Tm.insP_len]
  have := List.length_filter_le (fun p : Tm.Pr => decide (p.1 ≠ k)) l
  omega
end
end Go.Proofs.YtpmolinmopgbdaaGreat
namespace Go.Proofs.YtpmolinmopgbdaaGreat
open Go.RowKit
def Tm.val (m : Tm.Fn) (q : List UInt8) : Value := match m q with | some v => v | none => .slice none 0 0
def strLen : Value → Nat
  | .string s => s.size
  | _ => 0
theorem tell_any {w : World} {F : Nat → Prop} {bm B n : Nat} {m : Tm.Fn} {L : List UInt8 → List Sz.Rg} (hm : TmAt w bm m n) (hB : w.cell? ⟨B, 0, none⟩ = some (.map (some bm))) (hBl : B < w.heap.size)
    (hv : ∀ q v, m q = some v → Rgs w F v (L q)) (hn : ∀ q, m q = none → (q = [] → L [] = []) ∧ (q ≠ [] → L q = L (Pth.parent q))) (p : List UInt8) (hp : p.length ≤ 100000) :
    Calls Tryz.prog 129 #[.string (mk p), .pointer (some ⟨B, 0, none⟩)] w fun e w' => ∃ v, e = .returned v ∧ Rgs w' F v (L p) ∧ Below w.heap.size w w' := by
  have LK : Hid (∀ (W : World), Below w.heap.size w W → ∀ q : List UInt8, q.length ≤ 100000 → (Instr.lookup 147 (.map (some bm)) (.string (mk q)) true).run Tryz.prog W = .ok (.tuple #[Tm.val m q, .bool (m q).isSome]) W) := Lib.hid (fun W hW q hq => (hm.below hW).look (by omega))
  have CB : Hid (∀ (W : World), Below w.heap.size w W → W.cell? ⟨B, 0, none⟩ = some (.map (some bm))) := Lib.hid (fun W hW => (hW.cell (p := ⟨B, 0, none⟩) hBl).trans hB)
  have HV := Lib.hid hv
  have HN := Lib.hid hn
  have PA := Lib.hid (fun (q : List UInt8) (hq : q.length ≤ 100000) (W : World) => path_ok.parent q W hq)
  have hlook := LK.out w (Below.refl _ _) p hp
  clear hm hv hn hBl
  obtain ⟨ps, hps⟩ : ∃ ps, ps = mk p := ⟨_, rfl⟩
  rw [← hps] at hlook ⊢
  have Hps := Lib.hid hps
  clear hps
  generalize hx : Tm.val m p = x at hlook
  generalize hy : (m p).isSome = y at hlook
  have HX := Lib.hid hx
  have HY := Lib.hid hy
  clear hx hy
  go_enter Tryz.func129, Tryz.ntmps129
  go_wp2_with fail
  go_loopw [0, 4, 5, 20] (fun pv l has _ wr => ∃ q : List UInt8, q.length ≤ 100000 ∧ pv = .string (mk q) ∧ l = Tm.val m q ∧ has = .bool (m q).isSome ∧ Hid (L q = L p) ∧ Below w.heap.size w wr) (fun pv _ _ _ _ => strLen pv)
  case atStart => exact ⟨p, hp, by rw [Hps.out], HX.out.symm, by rw [HY.out], Lib.hid rfl, Below.refl _ _⟩
  case round =>
    obtain ⟨q, hq, rfl, rfl, rfl, hL, hbel⟩ := hrel
    have Hbel := Lib.hid hbel
    clear hlook
    cases hmq : m q with
    | some v =>
      have hval : Tm.val m q = v := by unfold Tm.val; rw [hmq]
      have hfin : Hid (Rgs wr F v (L p)) := Lib.hid (by rw [← hL.out]; exact (HV.out q v hmq).below hbel)
      rw [hval]
      clear hval hmq hbel hB
      go_wp2_with fail
      go_ret
      exact ⟨_, rfl, hfin.out, Hbel.out⟩
    | none =>
      have hval : Tm.val m q = .slice none 0 0 := by unfold Tm.val; rw [hmq]
      rw [hval]
      have ea := str_nil q
      have ia := str_empty q
      by_cases h0 : q = []
      · have hfin : Hid (Rgs wr F (.slice none 0 0) (L p)) := Lib.hid (by rw [← hL.out, h0, (HN.out q hmq).1 h0]; exact Rws.none _ _ _)
        rw [decide_eq_true h0] at ea ia
        clear hval hmq hbel h0 hB
        generalize mk q = qs at *
        go_wp2_with fail
        go_ret
        exact ⟨_, rfl, hfin.out, Hbel.out⟩
      · have hL2 : Hid (L (Pth.parent q) = L p) := Lib.hid (by rw [← hL.out]; exact ((HN.out q hmq).2 h0).symm)
        have hsh := Pth.parent_short h0
        have hpl : (Pth.parent q).length ≤ 100000 := by omega
        have PQ := Lib.hid (PA.out q hq)
        have hms : Hid (strLen (.string (mk (Pth.parent q))) < strLen (.string (mk q))) := Lib.hid (by show (mk (Pth.parent q)).size < (mk q).size; rw [mk_len, mk_len]; exact hsh)
        rw [decide_eq_false h0] at ea ia
        have LK2 := Lib.hid (fun W hW => LK.out W hW (Pth.parent q) hpl)
        have Hpl : Hid ((Pth.parent q).length ≤ 100000) := Lib.hid hpl
        generalize hpq : Pth.parent q = pq at *
        clear hval hmq hbel h0 hsh hpq hpl hB
        obtain ⟨qs, hqs⟩ : ∃ qs, qs = mk q := ⟨_, rfl⟩
        rw [← hqs] at ea ia PQ hms ⊢
        clear hqs
        go_wp2_with fail
        refine (PQ.out _).mono ?_
        rintro e w1 ⟨rfl, hb1⟩
        have HB1 := Lib.hid (Hbel.out.trans (hb1.mono Hbel.out.size))
        have hB := CB.out _ HB1.out
        have hlook := LK2.out _ HB1.out
        clear hb1
        generalize hx : Tm.val m pq = x at hlook
        generalize hy : (m pq).isSome = y at hlook
        have HX := Lib.hid hx
        have HY := Lib.hid hy
        clear hx hy
        obtain ⟨qs2, hqs2⟩ : ∃ qs, qs = mk pq := ⟨_, rfl⟩
        rw [← hqs2] at hlook hms ⊢
        have HQ2 := Lib.hid hqs2
        clear hqs2
        go_wp2_with fail
        exact ⟨⟨pq, Hpl.out, by rw [HQ2.out], HX.out.symm, by rw [HY.out], hL2, HB1.out⟩, hms.out⟩
end Go.Proofs.YtpmolinmopgbdaaGreat
namespace Go.Proofs.YtpmolinmopgbdaaGreat
open List renaming getElem_toArray → z1, getElem_cons_zero → z2, getElem_cons_succ → z3, setIfInBounds_toArray → z4, set_cons_zero → z5, set_cons_succ → z6
open Go.RowKit
theorem TmAt.look1 {w : World} {bm n : Nat} {m : Tm.Fn} (h : TmAt w bm m n) {k : List UInt8} (hk : k.length ≤ 9223372036854775807) :
    (Instr.lookup 147 (.map (some bm)) (.string (mk k)) false).run Tryz.prog w = .ok (Tm.val m k) w := by
  obtain ⟨l, ht, -, h⟩ := h
  obtain ⟨v', ps, h1, h2⟩ := World.ownsMap.lookup h Tm.keyed Tryz.underlying147 (Tm.zero w) (zd := .held (.slice none 0 0)) (zp := []) rfl (Tm.key (k := mk k) (by rw [mk_len]; exact hk))
  rw [h1]
  rw [mk_data, Tm.datum_at ht] at h2
  unfold Tm.raw at h2
  have e := congrArg Prod.fst (Option.some.inj h2)
  unfold Tm.val
  cases hg : m k with
  | none => rw [hg] at e; have e : DataW.held v' = .held _ := e; injection e with e; rw [e]
  | some v => rw [hg] at e; have e : DataW.held v' = .held _ := e; injection e with e; rw [e]
theorem clone_rg {w : World} {F : Nat → Prop} {v : Value} {f : List Sz.Rg} (h : Rgs w F v f) (hl : f.length ≤ 1000000) :
    Calls Tryz.prog 143 #[v] w fun e w' => ∃ v', e = .returned v' ∧ RowsOwn 91 2 rgV w f v' w' := by
  obtain ⟨i0, hi0, hz0, hz1, hz2⟩ := info_parts rangeInfo
  have hb0 : Below w.heap.size w (w.alloc (.cells #[] 91)) := (Below.refl _ _).alloc (Nat.le_refl _) _
  have hr := h.below hb0
  have h0own : (w.alloc (.cells #[] 91)).ownsRow w.heap.size 91 2 (.slice (some ⟨w.heap.size, 0, none⟩) 0 0) 0 [] := World.ownsRow_made w #[] 0 (Nat.le_refl _) (by decide) rfl
  obtain ⟨A, cap, rfl, hcap, hat⟩ := h
  have q22 : ∀ (w : World) (a : Option Addr) (n c n' c' : Nat), (binOp .eql 87 (.slice a n c) (.slice none n' c')).run Tryz.prog w = .ok (.bool a.isNone) w := fun w a n c n' c' => Lib.run_eql_slice_nil w _ _ a n c n' c' Tryz.underlying87
  cases A with
  | none =>
    have h0 : f.length = 0 := Nat.eq_zero_of_not_pos (fun hp => by obtain ⟨b, o, e, -⟩ := hat hp; cases e)
    have hf : f = [] := List.eq_nil_of_length_eq_zero h0
    subst hf
    clear hr hat
    go_enter Tryz.func143, Tryz.ntmps143
    go_wp2_with fail
    go_ret
    exact ⟨_, rfl, RowsOwn.start _ _ _ w⟩
  | some ad =>
    clear hat
    go_enter Tryz.func143, Tryz.ntmps143
    go_wp2_with (at_builtin; refine wp_joins (f := rgV) (k := 2) rfl _ _ 87 rfl w.heap.size 91 i0 (.agg #[.int .i64 0, .int .i64 0]) 16 Tryz.underlying87 hi0 hz0 hz1 hz2 rfl (by decide) rfl rfl h0own hr (fun _ _ => rfl) (fun x _ => rg_one x) ?a1 ?a2 ?a3 ?_)
    case a1 => unfold maxLen; omega
    case a2 => omega
    case a3 => simp
    intro v2 w2 own2 hg2 _
    have F2 := Lib.hid (RowsOwn.front hg2 (by rw [Nat.zero_add, List.nil_append]; exact own2))
    clear own2 hg2 hr h0own
    go_wp2_with fail
    go_ret
    exact ⟨_, rfl, F2.out⟩
theorem cov_tell {w : World} {F : Nat → Prop} {bm B n : Nat} {m : Tm.Fn} {L : List Flt.Cl} (hm : TmAt w bm m n) (hB : w.cell? ⟨B, 0, none⟩ = some (.map (some bm))) (hBl : B < w.heap.size)
    (hv : ∀ q, Rgs w F (Tm.val m q) (Cov.own L q)) (ho : ∀ q, (Cov.own L q).length ≤ 202) (hb : ∀ c ∈ L, 0 ≤ c.lo ∧ c.lo ≤ c.hi ∧ c.hi ≤ 200) (p : List UInt8) (hp : p.length ≤ 100000) :
    Calls Tryz.prog 142 #[.string (mk p), .pointer (some ⟨B, 0, none⟩)] w fun e w' => ∃ v X, e = .returned v ∧ RowsOwn 91 2 rgV w X v w' ∧ Cov.Ups L p [] X := by
  obtain ⟨i0, hi0, hz0, hz1, hz2⟩ := info_parts rangeInfo
  have LK : Hid (∀ (W : World), Below w.heap.size w W → ∀ q : List UInt8, q.length ≤ 100000 → (Instr.lookup 147 (.map (some bm)) (.string (mk q)) false).run Tryz.prog W = .ok (Tm.val m q) W) := Lib.hid (fun W hW q hq => (hm.below hW).look1 (by omega))
  have CB : Hid (∀ (W : World), Below w.heap.size w W → W.cell? ⟨B, 0, none⟩ = some (.map (some bm))) := Lib.hid (fun W hW => (hW.cell (p := ⟨B, 0, none⟩) hBl).trans hB)
  have HV : Hid (∀ (W : World), Below w.heap.size w W → ∀ q, Rgs W F (Tm.val m q) (Cov.own L q)) := Lib.hid (fun W hW q => (hv q).below hW)
  have HO := Lib.hid ho
  have ST := Lib.hid (Cov.ups_start ho hb p)
  have UP : Hid (∀ {q : List UInt8} {X : List Sz.Rg}, q ≠ [] → Cov.Ups L p q X → Cov.Ups L p (Pth.parent q) (X ++ Cov.own L (Pth.parent q))) := Lib.hid (fun hq hX => Cov.ups_step ho hb hq hX)
  have PA := Lib.hid (fun (q : List UInt8) (hq : q.length ≤ 100000) (W : World) => path_ok.parent q W hq)
  have hlook := LK.out w (Below.refl _ _) p hp
  have CL := Lib.hid (clone_rg (hv p) (by have := ho p; omega))
  have HPL := Lib.hid hp
  clear hm hv hBl ho hb
  obtain ⟨ps, hps⟩ : ∃ ps, ps = mk p := ⟨_, rfl⟩
  rw [← hps] at hlook ⊢
  have Hps := Lib.hid hps
  clear hps
  generalize hx : Tm.val m p = x at hlook CL
  clear hx
  go_enter Tryz.func142, Tryz.ntmps142
  go_wp2_with fail
  refine (CL.out).mono ?_
  rintro e w1 ⟨v1, rfl, h1⟩
  have H1 := Lib.hid h1
  clear h1 hlook hB hp
  go_wp2_with fail
  go_loopw [0, 4] (fun pv l wr => ∃ (q : List UInt8) (X : List Sz.Rg), q.length ≤ 100000 ∧ pv = .string (mk q) ∧ RowsOwn 91 2 rgV w X l wr ∧ Hid (Cov.Ups L p q X)) (fun pv _ _ => strLen pv)
  case atStart => exact ⟨p, Cov.own L p, HPL.out, by rw [Hps.out], H1.out, ST⟩
  case round =>
    obtain ⟨q, X, hq, rfl, hX, hU⟩ := hrel
    have HX := Lib.hid hX
    have ea := str_nil q
    have ia := str_empty q
    by_cases h0 : q = []
    · have hfin : Hid (Cov.Ups L p [] X) := Lib.hid (by have := hU.out; rwa [h0] at this)
      rw [decide_eq_true h0] at ea ia
      clear h0 hX
      generalize mk q = qs at *
      go_wp2_with fail
      go_ret
      exact ⟨_, X, rfl, HX.out, hfin.out⟩
    · have hU2 := Lib.hid (UP.out h0 hU.out)
      have hsh := Pth.parent_short h0
      have hpl : (Pth.parent q).length ≤ 100000 := by omega
      have PQ := Lib.hid (PA.out q hq)
      have hms : Hid (strLen (.string (mk (Pth.parent q))) < strLen (.string (mk q))) := Lib.hid (by show (mk (Pth.parent q)).size < (mk q).size; rw [mk_len, mk_len]; exact hsh)
      have hXl : Hid (X.length ≤ 20200202) := Lib.hid (by have := hU.out.2.1; have := HPL.out; omega)
      rw [decide_eq_false h0] at ea ia
      have LK2 := Lib.hid (fun W hW => LK.out W hW (Pth.parent q) hpl)
      have HV2 := Lib.hid (fun W hW => HV.out W hW (Pth.parent q))
      have HO2 := Lib.hid (HO.out (Pth.parent q))
      have Hpl : Hid ((Pth.parent q).length ≤ 100000) := Lib.hid hpl
      generalize hpq : Pth.parent q = pq at *
      clear h0 hsh hpq hpl hX
      obtain ⟨qs, hqs⟩ : ∃ qs, qs = mk q := ⟨_, rfl⟩
      rw [← hqs] at ea ia PQ hms ⊢
      clear hqs
      go_wp2_with fail
      refine (PQ.out _).mono ?_
      rintro e w2 ⟨rfl, hb2⟩
      have HX2 := Lib.hid (HX.out.below hb2)
      have hB := CB.out _ HX2.out.2
      have hlook := LK2.out _ HX2.out.2
      have hown := HX2.out.1
      have hr := HV2.out _ HX2.out.2
      have hsz := HX2.out.2.size
      clear hb2
      generalize hx : Tm.val m pq = x at hlook hr
      clear hx
      obtain ⟨qs2, hqs2⟩ : ∃ qs, qs = mk pq := ⟨_, rfl⟩
      rw [← hqs2] at hlook hms ⊢
      have HQ2 := Lib.hid hqs2
      clear hqs2
      go_wp2_with (at_builtin; refine wp_joins (f := rgV) (k := 2) rfl _ _ 87 rfl w.heap.size 91 i0 (.agg #[.int .i64 0, .int .i64 0]) 16 Tryz.underlying87 hi0 hz0 hz1 hz2 rfl (by decide) rfl rfl hown hr (fun _ _ => rfl) (fun x _ => rg_one x) ?c3 ?c4 hsz ?_)
      case c3 => have := hXl.out; have := HO2.out; unfold maxLen; first | omega | (simp <;> omega)
      case c4 => have := hXl.out; have := HO2.out; first | omega | (simp <;> omega)
      intro v3 w3 own3 hg3 _
      have H3 := Lib.hid (HX2.out.rest hg3 own3)
      clear own3 hg3 hown hr hB hlook
      go_wp2_with fail
      exact ⟨⟨pq, X ++ Cov.own L pq, Hpl.out, by rw [HQ2.out], H3.out, hU2⟩, hms.out⟩
end Go.Proofs.YtpmolinmopgbdaaGreat
namespace Go.Proofs.YtpmolinmopgbdaaGreat
open Go.RowKit
structure Grp (base : Nat) (w : World) (m : Tm.Fn) (T : List Flt.Cl) : Prop where
  own : ∀ q, w.ownsRow base 91 2 (Tm.val m q) (Cov.own T q).length ((Cov.own T q).flatMap rgV)
  apart : ∀ q q', q ≠ q' → ∀ g, (Tm.val m q).ownBlock = some g → (Tm.val m q').ownBlock ≠ some g
theorem Tm.val_set (m : Tm.Fn) (p q : List UInt8) (v : Value) : Tm.val (Tm.set m p v) q = if q = p then v else Tm.val m q := by
  unfold Tm.val Tm.set
  by_cases h : q = p
  · rw [if_pos h, if_pos h]
  · rw [if_neg h, if_neg h]
section
variable {base : Nat} {w w1 w2 : World} {m : Tm.Fn} {T : List Flt.Cl}
theorem Grp.start (base : Nat) (w : World) : Grp base w (fun _ => none) [] := ⟨fun q => World.ownsRow_nil _ _ _ _, fun q q' _ g h => by cases h⟩
theorem Grp.below (h : Grp base w m T) (k : Below w.heap.size w w1) : Grp base w1 m T := ⟨fun q => row_below (h.own q) k, h.apart⟩
theorem Grp.left (h : Grp base w m T) {b : Nat} (k : w.grownBy w1 (some b)) (hb : b < base) : Grp base w1 m T :=
  ⟨fun q => own_left (h.own q) k (fun g hg e => by injection e with e; have := ((h.own q).lt g hg).1; omega), h.apart⟩
theorem Grp.put (h : Grp base w m T) {p : List UInt8} {lo hi : Int} {v : Value} (ho : w1.ownsRow base 91 2 v ((Cov.own T p).length + 1) ((Cov.own T p).flatMap rgV ++ rgV (lo, hi))) (hg : w.grownBy w1 (Tm.val m p).ownBlock) (hn : Near w (Tm.val m p) v) : Grp base w1 (Tm.set m p v) (T ++ [⟨p, lo, hi⟩]) := by
  constructor
  · intro q
    rw [Tm.val_set, Cov.own_more]
    by_cases e : q = p
    · subst e
      rw [if_pos rfl, if_pos rfl, List.length_append, List.flatMap_append]
      simpa [Flt.rg] using ho
    · rw [if_neg e, if_neg (fun h => e h.symm), List.append_nil]
      exact own_left (h.own q) hg (fun g hq e2 => h.apart q p e g hq e2)
  · intro q q' hne g hq hq'
    rw [Tm.val_set] at hq hq'
    by_cases e : q = p
    · rw [if_pos e] at hq
      by_cases e' : q' = p
      · exact hne (e.trans e'.symm)
      · rw [if_neg e'] at hq'
        rcases hn with hn | hn
        · rw [hn] at hq
          exact h.apart q' p e' g hq' hq
        · have h1 := hn g hq
          have h2 := ((h.own q').lt g hq').2
          omega
    · rw [if_neg e] at hq
      by_cases e' : q' = p
      · rw [if_pos e'] at hq'
        rcases hn with hn | hn
        · rw [hn] at hq'
          exact h.apart q p e g hq hq'
        · have h1 := hn g hq'
          have h2 := ((h.own q).lt g hq).2
          omega
      · rw [if_neg e'] at hq'
        exact h.apart q q' hne g hq hq'
theorem Grp.rows (h : Grp base w m T) (q : List UInt8) : Rgs w (fun i => base ≤ i) (Tm.val m q) (Cov.own T q) := Rws.ofOwn (h.own q) rfl (fun _ _ => rfl) (fun _ _ h1 _ => h1)
end
end Go.Proofs.YtpmolinmopgbdaaGreat
