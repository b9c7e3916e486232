/- It is full only if there is no room: StoreRoom out of the contracts. -/
import Derived.Test.YtbfjageaheijbaaGreatCom41
namespace Go.Proofs.YtbfjageaheijbaaGreat
open Go.RowKit Dsk Jnl

section
variable {At : World → (Nat → Prop) → Value → D → Prop} {Own : World → (Nat → Prop) → Value → Value → Nat → Sto.Sr → Prop}

/-- At the head of a round of StoreRoom. -/
def RoomAt (At : World → (Nat → Prop) → Value → D → Prop) (Own : World → (Nat → Prop) → Value → Value → Nat → Sto.Sr → Prop) (W : World) (dv sv : Value) (n : Nat) (m : Nat) (pv : Value) (w : World) : Prop :=
  ∃ d s Z, Stands At Own W dv sv n d s pv Z w ∧ Plain n d s (3 + m * 46) (1 + m) ∧ Calm d ∧ s.quota = 1048576

variable {W w w' : World} {dv sv pv : Value} {n : Nat} {d : D} {s : Sto.Sr} {Z : Nat → Prop}

set_option maxRecDepth 100000 in
theorem RoomAt.bel {m : Nat} (h : RoomAt At Own W dv sv n m pv w) : Below W.heap.size W w := by
  obtain ⟨d, s, Z, k, -⟩ := h
  exact k.sw.bel

set_option maxRecDepth 100000 in
theorem Stands.below (U : DiskUse At) (H : StoreOk At Own) (h : Stands At Own W dv sv n d s pv Z w) (k : Below w.heap.size w w') : Stands At Own W dv sv n d s pv Z w' := ⟨(h.sw.below U H k).1, h.old, h.pairs.below k⟩

set_option maxRecDepth 100000 in
/-- One of a store's values, put again. -/
theorem room_again {K M : Nat} (hp : Plain n d s K M) (hc : Calm d) (hn : 4 ≤ n) (hn2 : n ≤ 1026) (hM : M < 9223372036854775807) {p : Sto.Pr} (hm : p ∈ s.vals) :
    (Sto.doing n d s [⟨p.1, p.2, false⟩]).1 = 0 ∧ Plain n (Sto.doing n d s [⟨p.1, p.2, false⟩]).2.1 (Sto.doing n d s [⟨p.1, p.2, false⟩]).2.2 (K + (2 * hof n + 6)) (M + 1) ∧ Calm (Sto.doing n d s [⟨p.1, p.2, false⟩]).2.1 ∧
      (Sto.doing n d s [⟨p.1, p.2, false⟩]).2.2.vals = s.vals ∧ (Sto.doing n d s [⟨p.1, p.2, false⟩]).2.2.quota = s.quota := by
  obtain ⟨hso, hfi⟩ := hp.lives.vals
  obtain ⟨h1, h2⟩ := Sto.again_check hso hfi hm s.quota
  have hw := hp.whole
  rcases doing_calm (cs := [⟨p.1, p.2, false⟩]) hp.lives hc hn hn2 (by have := hp.seq; omega) with ⟨k1, _⟩ | ⟨_, k2, _⟩ | ⟨_, _, k3, k4, k5, k6, k7⟩
  · exact absurd h1 k1
  · rw [h2] at k2; omega
  · rw [h2] at k5
    exact ⟨k3, ⟨k4, Sto.doing_fine hp.fine, by rw [k6]; exact hp.quota, by rw [k5]; exact hw, by have := hp.seq; omega⟩, calm_doing hc, k5, k6⟩

set_option maxRecDepth 100000 in
/-- Behind a transaction of StoreRoom's: full, or done. -/
theorem room_case {K M : Nat} (hp : Plain n d s K M) (hc : Calm d) (hn : 4 ≤ n) (hn2 : n ≤ 1026) (hM : M < 9223372036854775807) {cs : List Sto.Ch} (h0 : Sto.check s.vals cs s.quota = 0) :
    (64 * hof n < Sto.whole (Sto.after s.vals cs) ∧ (Sto.doing n d s cs) = (10, d, s)) ∨ (¬ 64 * hof n < Sto.whole (Sto.after s.vals cs) ∧ (Sto.doing n d s cs).1 = 0 ∧ Plain n (Sto.doing n d s cs).2.1 (Sto.doing n d s cs).2.2 (K + (2 * hof n + 6)) (M + 1) ∧ Calm (Sto.doing n d s cs).2.1 ∧
      (Sto.doing n d s cs).2.2.vals = Sto.after s.vals cs ∧ (Sto.doing n d s cs).2.2.quota = s.quota) := by
  rcases doing_calm (cs := cs) hp.lives hc hn hn2 (by have := hp.seq; omega) with ⟨k1, _⟩ | ⟨_, k2, k3⟩ | ⟨_, k2, k3, k4, k5, k6, k7⟩
  · exact absurd h0 k1
  · exact Or.inl ⟨k2, k3⟩
  · exact Or.inr ⟨by omega, k3, ⟨k4, Sto.doing_fine hp.fine, by rw [k6]; exact hp.quota, by rw [k5]; exact k2, by have := hp.seq; omega⟩, calm_doing hc, k5, k6⟩

/-- The same, its values named. -/
def RoomOf (At : World → (Nat → Prop) → Value → D → Prop) (Own : World → (Nat → Prop) → Value → Value → Nat → Sto.Sr → Prop) (W : World) (dv sv : Value) (n : Nat) (m : Nat) (pv : Value) (vals : List Sto.Pr) (w : World) : Prop :=
  ∃ d s Z, Stands At Own W dv sv n d s pv Z w ∧ Plain n d s (3 + m * 46) (1 + m) ∧ Calm d ∧ s.quota = 1048576 ∧ s.vals = vals

set_option maxRecDepth 100000 in
theorem RoomOf.at {m k : Nat} {vals : List Sto.Pr} (h : RoomOf At Own W dv sv n m pv vals w) (hk : m ≤ k) : RoomAt At Own W dv sv n k pv w := by
  obtain ⟨d, s, Z, k1, k2, k3, k4, k5⟩ := h
  exact ⟨d, s, Z, k1, k2.mono (by omega) (by omega), k3, k4⟩

set_option maxRecDepth 100000 in
theorem RoomAt.mono {m k : Nat} (h : RoomAt At Own W dv sv n m pv w) (hk : m ≤ k) : RoomAt At Own W dv sv n k pv w := by
  obtain ⟨d, s, Z, k1, k2, k3, k4⟩ := h
  exact ⟨d, s, Z, k1, k2.mono (by omega) (by omega), k3, k4⟩

set_option maxRecDepth 100000 in
/-- The transaction itself, behind the law's own After and Whole. -/
theorem room_do (U : DiskUse At) (H : StoreOk At Own) {m : Nat} (hst : Stands At Own W dv sv n d s pv Z w) (hpl : Plain n d s (3 + m * 46) (1 + m)) (hcal : Calm d) (hq : s.quota = 1048576) (hn : 4 ≤ n) (hn2 : n ≤ 43) (hm : m ≤ 1000) {cv : Value} {cs : List Sto.Ch}
    (hc : Changes w (fun i => i < W.heap.size) cv cs) (hcl : cs.length ≤ 9223372036854775807) (h0 : Sto.check s.vals cs s.quota = 0) {a b c : World} {nv : Value} (ha : Below w.heap.size w a) (hv : Vals a Z (Sto.after s.vals cs) nv b) (hb : Below b.heap.size b c) :
    Calls Tryz.prog 17 #[sv, cv] c fun e w' => (64 * hof n < Sto.whole (Sto.after s.vals cs) ∧ e = .returned (.int .i64 10) ∧ RoomOf At Own W dv sv n (m + 1) pv s.vals w') ∨
      (¬ 64 * hof n < Sto.whole (Sto.after s.vals cs) ∧ e = .returned (.int .i64 0) ∧ RoomOf At Own W dv sv n (m + 1) nv (Sto.after s.vals cs) w') := by
  have hhk : 2 * hof n + 6 ≤ 46 := by unfold hof; omega
  have hac : Below a.heap.size a c := hv.2.trans (hb.mono hv.2.size)
  have hwc : Below w.heap.size w c := ha.trans (hac.mono ha.size)
  have hsw := (hst.sw.below U H ha).1.more U H hac (Y := fun i => Z i ∨ NewIn a b i) (fun i hi => hi.elim Or.inl (fun h => Or.inr ⟨h.1, Nat.lt_of_lt_of_le h.2 hb.size⟩))
  have hpn : Pairs c (fun i => Z i ∨ NewIn a b i) nv (Sto.after s.vals cs) := hv.1.below hb
  have hpo : Pairs c (fun i => Z i ∨ NewIn a b i) pv s.vals := (hst.pairs.below hwc).mono (fun i hi => Or.inl hi)
  refine (sw_do H hsw hpl.lives (hpl.good (by omega)) hpl.fine hn (by omega) (hc.below hwc) (fun i hi => Or.inl (hst.old i hi)) hcl).mono ?_
  rintro e w' ⟨rfl, k1, k2⟩
  rcases room_case hpl hcal hn (by omega) (by omega) h0 with ⟨g1, g2⟩ | ⟨g1, g2, g3, g4, g5, g6⟩
  · refine Or.inl ⟨g1, by rw [g2], ?_⟩
    rw [g2] at k1
    exact ⟨d, s, _, ⟨k1, fun i hi => Or.inl (hst.old i hi), k2.rws hpo (fun _ h => h)⟩, hpl.mono (by omega) (by omega), hcal, hq, rfl⟩
  · refine Or.inr ⟨g1, by rw [g2], _, _, _, ⟨k1, fun i hi => Or.inl (hst.old i hi), ?_⟩, g3.mono (by omega) (by omega), g4, by rw [g6]; exact hq, g5⟩
    rw [g5]
    exact k2.rws hpn (fun _ h => h)

set_option maxRecDepth 100000 in
set_option maxHeartbeats 6400000 in
theorem room_walk (U : DiskUse At) (H : StoreOk At Own) (A : Option Addr) (len cap : Nat) (l : List Lc) (W : World) (hlc : len ≤ cap) (h63 : len ≤ 9223372036854775807) (hin : LcsIn W A len l) (sn : Nat) (hsn : sn < 256) :
    Calls Tryz.prog 4 #[.slice A len cap, .int .u8 (sn : Int)] W fun e w' => e = .returned (.bool true) ∧ Below W.heap.size W w' := by
  obtain ⟨hlen, hok, hat⟩ := hin
  have Hok := Lib.hid hok
  have Hat := Lib.hid hat
  have hl63 : (len : Int) ≤ 9223372036854775807 := by omega
  obtain ⟨n, hn⟩ : ∃ n : Nat, n = sn % 40 + 4 := ⟨_, rfl⟩
  have hn4 : 4 ≤ n := by omega
  have hn43 : n ≤ 43 := by omega
  have hh : hof n = (n - 2) / 2 := rfl
  have hhk : 2 * hof n + 6 ≤ 46 := by rw [hh]; omega
  obtain ⟨k0, hk0⟩ : ∃ k0 : Nat, k0 = sn % 40 := ⟨_, rfl⟩
  have e1 : (sn : Int) % 40 = (k0 : Int) := by omega
  have e2 : (k0 : Int) + 4 = (n : Int) := by omega
  have e0 : (k0 : Int) ≤ 39 := by omega
  have e3 : ((n : Int) - 2).tdiv 2 = ((hof n : Nat) : Int) := by
    rw [hh]
    have : (n : Int) - 2 = ((n - 2 : Nat) : Int) := by omega
    rw [this]
    rfl
  obtain ⟨l1, cal1, fin1⟩ := format_lives (n := n) hn4 (by omega) 1048576
  have p1 : Hid (Plain n (Jnl.format (Dsk.new n)).2 ⟨⟨1, 0, [], false⟩, [], 1048576, false⟩ 3 1) := ⟨l1, fin1, ⟨(show (0 : Int) ≤ 1048576 by decide), (show (1048576 : Int) ≤ 1048576 by decide)⟩, Nat.zero_le _, Nat.le_refl _⟩
  have Cal := Lib.hid cal1
  have C0 := Lib.hid (dw_new U n W (by omega) (by omega))
  have C1 : Hid (∀ w p, Dw At W (fun _ => False) (.pointer (some p)) (Dsk.new n) w → Calls Tryz.prog 8 #[.pointer (some p)] w fun e w' => e = .returned (.int .i64 0) ∧ Dw At W (fun _ => False) (.pointer (some p)) (Jnl.format (Dsk.new n)).2 w' ∧ SameZ (fun _ => False) w w') :=
    Lib.hid (fun W p h => store_format U H hn4 (by omega) h)
  have C1b : Hid (∀ w p, Dw At W (fun _ => False) (.pointer (some p)) (Jnl.format (Dsk.new n)).2 w → Calls Tryz.prog 9 #[] w fun e w' => e = .returned (.bool true) ∧ Dw At W (fun _ => False) (.pointer (some p)) (Jnl.format (Dsk.new n)).2 w') :=
    Lib.hid (fun w p h => (sto_awake U H w).mono (by rintro e w' ⟨rfl, k⟩; exact ⟨rfl, (h.below U k).1⟩))
  have C2 : Hid (∀ w p, Dw At W (fun _ => False) (.pointer (some p)) (Jnl.format (Dsk.new n)).2 w → Calls Tryz.prog 10 #[.pointer (some p), .int .i64 1048576] w fun e w' => ∃ q, e = .returned (.tuple #[.pointer (some q), .int .i64 0]) ∧ RoomAt At Own W (.pointer (some p)) (.pointer (some q)) n 0 (.slice none 0 0) w') :=
    Lib.hid (fun w p h => by
      refine (dw_store U H (dw_old h) l1 fin1 hn4 (by decide) (by decide) (by decide)).mono ?_
      rintro e w' ⟨q, rfl, k1, -⟩
      exact ⟨q, rfl, _, _, _, ⟨k1, fun i hi => Or.inr hi, Rws.none _ _ _⟩, p1.out, Cal.out, rfl⟩)
  clear l1 cal1 fin1 p1 Cal hok hat hk0 hn
  generalize (Jnl.format (Dsk.new n)).2 = d1 at *
  have hnI : (n : Int) ≤ 43 := by omega
  have hnI4 : (4 : Int) ≤ (n : Int) := by omega
  go_enter Tryz.func4, Tryz.ntmps4
  go_wp2_with fail
  refine C0.out.mono ?_
  rintro e w1 ⟨p, rfl, h1⟩
  have H1 := Lib.hid h1
  clear h1
  go_wp2_with fail
  refine (C1.out _ _ H1.out).mono ?_
  rintro e w2 ⟨rfl, h2, -⟩
  have H2 := Lib.hid h2
  clear h2 H1
  go_wp2_with fail
  refine (C1b.out _ _ H2.out).mono ?_
  rintro e w2b ⟨rfl, h2⟩
  have H2b := Lib.hid h2
  clear h2 H2
  go_wp2_with fail
  refine (C2.out _ _ H2b.out).mono ?_
  rintro e w3 ⟨q, rfl, h3⟩
  have H3 := Lib.hid h3
  clear h3 H2b C0 C1 C1b C2
  go_wp2_with fail
  go_loopw [10, 11] (fun pv i wr => ∃ m : Nat, m ≤ l.length ∧ m ≤ 40 ∧ i = .int .i64 (m : Int) ∧ RoomAt At Own W (.pointer (some p)) (.pointer (some q)) n (4 * m) pv wr) (fun _ i _ => l.length - (intOf i).toNat)
  case atStart => exact ⟨0, Nat.zero_le _, Nat.zero_le _, rfl, H3.out⟩
  case round =>
    obtain ⟨m, hm, hm40, rfl, hk⟩ := hrel
    clear H3
    have HK := Lib.hid hk
    have hm0 : (0 : Int) ≤ (m : Int) := by omega
    have hm3 : (m : Int) ≤ 40 := by omega
    clear hk
    by_cases hgo : m < l.length ∧ m < 40
    · obtain ⟨hlt, hlt40⟩ := hgo
      have hm1 : (m : Int) < (len : Int) := by omega
      have hm2 : (m : Int) < 40 := by omega
      obtain ⟨b, off, rfl, hb, hcells⟩ := Hat.out (by omega)
      obtain ⟨x, hx⟩ : ∃ x, l[m]? = some x := ⟨_, List.getElem?_eq_getElem hlt⟩
      have hxok := Hok.out x (List.mem_of_getElem? hx)
      have hbel := HK.out.bel
      have hcell : wr.cell? ⟨b, off + m, none⟩ = some (.slice x.A x.len x.cap) := (hbel.cell (p := ⟨b, off + m, none⟩) hb).trans (hcells m x hx)
      have hcellAll : Hid (∀ a, Below W.heap.size W a → a.cell? ⟨b, off + m, none⟩ = some (.slice x.A x.len x.cap)) := Lib.hid (fun a ha => (ha.cell (p := ⟨b, off + m, none⟩) hb).trans (hcells m x hx))
      have hxc : Changes W (fun i => i < W.heap.size) (.slice x.A x.len x.cap) x.cs := hxok.cells
      obtain ⟨d, s, Z, hst, hpl, hcal, hq⟩ := HK.out
      have hg := hpl.good (by omega)
      have L1 := Lib.hid (lightc_any (hxc.below hbel) hxok.len)
      have K1 := Lib.hid (check_law hst.pairs (hxc.below hbel) hg.few hg.fit hxok.len 1048576)
      by_cases hli : LightC x.cs
      · rw [decide_eq_true hli] at L1
        by_cases hch : Sto.check s.vals x.cs 1048576 = 0
        · have hch2 : Sto.check s.vals x.cs s.quota = 0 := by rw [hq]; exact hch
          rw [hch] at K1
          have hco := Sto.check_ok hch2
          have hnf := Sto.after_fit hg.fit hco.2.2
          have hnl : (Sto.after s.vals x.cs).length ≤ 200000 := by have := Sto.after_len s.vals x.cs; have := hg.few; have := hco.2.1; omega
          have hwl := whole_le hnf
          have A1 : Hid (∀ a, Below wr.heap.size wr a → Calls Tryz.prog 14 #[u10, .slice x.A x.len x.cap] a fun e w' => ∃ v', e = .returned v' ∧ Vals a Z (Sto.after s.vals x.cs) v' w') := Lib.hid (fun a ha => after_any (hst.pairs.below ha) (hxc.below (hbel.trans (ha.mono hbel.size))) (by have := hg.few; have := hco.2.1; omega))
          have W1 : Hid (∀ a b v, Vals a Z (Sto.after s.vals x.cs) v b → Calls Tryz.prog 22 #[v] b fun e w' => e = .returned (.int .i64 (Sto.whole (Sto.after s.vals x.cs) : Int)) ∧ Below b.heap.size b w') := Lib.hid (fun a b v hv => whole_any hv.1 hnl hnf)
          have D1 : Hid (∀ a b c v, Below wr.heap.size wr a → Vals a Z (Sto.after s.vals x.cs) v b → Below b.heap.size b c → Calls Tryz.prog 17 #[.pointer (some q), .slice x.A x.len x.cap] c fun e w' => (64 * hof n < Sto.whole (Sto.after s.vals x.cs) ∧ e = .returned (.int .i64 10) ∧ RoomOf At Own W (.pointer (some p)) (.pointer (some q)) n (4 * m + 1) u10 s.vals w') ∨
              (¬ 64 * hof n < Sto.whole (Sto.after s.vals x.cs) ∧ e = .returned (.int .i64 0) ∧ RoomOf At Own W (.pointer (some p)) (.pointer (some q)) n (4 * m + 1) v (Sto.after s.vals x.cs) w')) := Lib.hid (fun a b c v ha hv hb => room_do U H hst hpl hcal hq hn4 hn43 (by omega) (hxc.below hbel) hxok.len hch2 ha hv hb)
          have n1 : (Sto.whole (Sto.after s.vals x.cs) : Int) ≤ 4200000000 := by omega
          have hsv : (s.vals.length : Int) ≤ 200000 := by have := hg.few; omega
          have hnv : ((Sto.after s.vals x.cs).length : Int) ≤ 200000 := by omega
          have hbig : (hof n : Int) ≤ 30 := by rw [hh]; omega
          clear hx hxok hxc hst hpl hcal hg hli hch hch2 hq HK hco hnf hnl hwl
          generalize hnx : Sto.after s.vals x.cs = next at *
          generalize x.A = xA at *
          generalize x.len = xl at *
          generalize x.cap = xc at *
          by_cases hfull : 64 * hof n < Sto.whole next
          · have hf1 : decide (64 * (hof n : Int) < (Sto.whole next : Int)) = true := decide_eq_true (by omega)
            have hf2 : 64 * (hof n : Int) < (Sto.whole next : Int) := by omega
            have D2 : Hid (∀ a b c v, Below wr.heap.size wr a → Vals a Z next v b → Below b.heap.size b c → Calls Tryz.prog 17 #[.pointer (some q), .slice xA xl xc] c fun e w' => e = .returned (.int .i64 10) ∧ RoomOf At Own W (.pointer (some p)) (.pointer (some q)) n (4 * m + 1) u10 s.vals w') := Lib.hid (fun a b c v ha hv hb => (D1.out a b c v ha hv hb).mono (by
              rintro e w' (⟨-, h1, h2⟩ | ⟨h1, -⟩)
              · exact ⟨h1, h2⟩
              · exact absurd hfull h1))
            clear D1 hfull
            generalize Sto.whole next = wn at *
            generalize s.vals = vals at *
            go_wp2_with (first
              | (go_at_call 11; refine (L1.out).mono ?_; rintro e w4 ⟨rfl, rfl⟩)
              | (go_at_call 12; refine (K1.out).mono ?_; rintro e w5 ⟨rfl, b5⟩; have hcell5 := hcellAll.out w5 (hbel.trans (b5.mono hbel.size)))
              | (go_at_call 14; refine (A1.out _ b5).mono ?_; rintro e w6 ⟨v6, rfl, h6⟩)
              | (go_at_call 22; refine (W1.out _ _ _ h6).mono ?_; rintro e w7 ⟨rfl, b7⟩; have hcell7 := hcellAll.out w7 (((hbel.trans (b5.mono hbel.size)).trans (h6.2.mono (Nat.le_trans hbel.size b5.size))).trans (b7.mono (Nat.le_trans (Nat.le_trans hbel.size b5.size) h6.2.size))))
              | (go_at_call 17; refine (D2.out _ _ _ _ b5 h6 b7).mono ?_; rintro e w8 ⟨rfl, h8⟩))
            have HR := Lib.hid h8
            clear h8 h6
            obtain ⟨pA, pc, rfl, hpcap⟩ : ∃ pA pc, u10 = .slice pA (vals).length pc ∧ (vals).length ≤ pc := by
              obtain ⟨d3, s3, Z3, k1, k2, k3, k4, k5⟩ := HR.out
              have hpr := k1.pairs
              rw [k5] at hpr
              exact hpr.slice
            go_loopw [14] (fun kk wx => ∃ j : Nat, j ≤ 3 ∧ j ≤ vals.length ∧ kk = .int .i64 (j : Int) ∧ RoomOf At Own W (.pointer (some p)) (.pointer (some q)) n (4 * m + 1 + j) (.slice pA (vals).length pc) vals wx) (fun kk _ => 3 - (intOf kk).toNat)
            case atStart => exact ⟨0, by omega, Nat.zero_le _, rfl, HR.out⟩
            case round =>
              obtain ⟨j, hj3, hjl, rfl, hro⟩ := hrel
              have HRO := Lib.hid hro
              clear hro
              have hj0 : (0 : Int) ≤ (j : Int) := by omega
              have hj9 : (j : Int) ≤ 3 := by omega
              by_cases hin2 : j < vals.length ∧ j < 3
              · obtain ⟨hjlt, hj33⟩ := hin2
                have hj1 : (j : Int) < (vals.length : Int) := by omega
                have hj2 : (j : Int) < 3 := by omega
                obtain ⟨d3, s3, Z3, k1, k2, k3, k4, k5⟩ := HRO.out
                obtain ⟨y, hy⟩ : ∃ y, vals[j]? = some y := ⟨_, List.getElem?_eq_getElem hjlt⟩
                have hpr := k1.pairs
                rw [k5] at hpr
                obtain ⟨g1, g2, g3, g4, g5⟩ := room_again k2 k3 hn4 (by omega) (by omega) (p := y) (by rw [k5]; exact List.mem_of_getElem? hy)
                have hdo : Hid (∀ a, Below (wr.alloc (.cells #[.string (mk y.1), .string (mk y.2), .bool false] 52)).heap.size (wr.alloc (.cells #[.string (mk y.1), .string (mk y.2), .bool false] 52)) a → Calls Tryz.prog 17 #[.pointer (some q), .slice (some ⟨wr.heap.size, 0, none⟩) 1 1] a fun e w' => e = .returned (.int .i64 0) ∧ RoomOf At Own W (.pointer (some p)) (.pointer (some q)) n (4 * m + 1 + (j + 1)) (.slice pA (vals).length pc) vals w') := Lib.hid (fun a ha => by
                  refine (stands_do_at U H k1 k2 hn4 (by omega) (by omega) ⟨y.1, y.2, false⟩ ha).mono ?_
                  rintro e w' ⟨rfl, r1, r2⟩
                  rw [g1]
                  refine ⟨rfl, _, _, _, ⟨r1, fun i hi => Or.inl (k1.old i hi), ?_⟩, g2.mono (by omega) (by omega), g3, by rw [g5]; exact k4, by rw [g4]; exact k5⟩
                  rw [g4]; exact r2)
                obtain ⟨pb, po, pc', pe, -, -, -⟩ := hpr.shape (by omega)
                injection pe with pe1 pe2 pe3
                subst pe1 pe3
                obtain ⟨c0, c1⟩ := Pairs.at hpr hy
                clear hy hpr g1 g2 g3 g4 g5 k1 k2 k3 k4 k5 HRO
                generalize mk y.1 = y1 at *
                generalize mk y.2 = y2 at *
                go_wp2_with fail
                go_region_law (first
                  | (go_simp; go_at_call 17; refine (hdo.out _ ((Below.refl _ _).drew)).mono ?_; rintro e w9 ⟨rfl, h9⟩))
                all_goals
                  go_wp2_with fail
                  refine ⟨⟨j + 1, by omega, by omega, rfl, h9⟩, ?_⟩
                  show 3 - ((j : Int) + 1).toNat < 3 - (j : Int).toNat
                  omega
              · have HO : Hid (RoomAt At Own W (.pointer (some p)) (.pointer (some q)) n (4 * (m + 1)) (.slice pA (vals).length pc) wr) := Lib.hid (HRO.out.at (by omega))
                have hcase : (¬ (j : Int) < (vals.length : Int)) ∨ ((j : Int) < (vals.length : Int) ∧ ¬ (j : Int) < 3) := by omega
                clear HRO hin2
                rcases hcase with hq1 | ⟨hq1, hq2⟩
                all_goals
                  go_wp2_with fail
                  refine ⟨⟨m + 1, by omega, by omega, rfl, HO.out⟩, ?_⟩
                  show l.length - ((m : Int) + 1).toNat < l.length - (m : Int).toNat
                  omega
          · have hf1 : decide (64 * (hof n : Int) < (Sto.whole next : Int)) = false := decide_eq_false (by omega)
            have hf2 : ¬ 64 * (hof n : Int) < (Sto.whole next : Int) := by omega
            have D2 : Hid (∀ a b c v, Below wr.heap.size wr a → Vals a Z next v b → Below b.heap.size b c → Calls Tryz.prog 17 #[.pointer (some q), .slice xA xl xc] c fun e w' => e = .returned (.int .i64 0) ∧ RoomOf At Own W (.pointer (some p)) (.pointer (some q)) n (4 * m + 1) v next w') := Lib.hid (fun a b c v ha hv hb => (D1.out a b c v ha hv hb).mono (by
              rintro e w' (⟨h1, -⟩ | ⟨-, h1, h2⟩)
              · exact absurd h1 hfull
              · exact ⟨h1, h2⟩))
            clear D1 hfull
            generalize Sto.whole next = wn at *
            go_wp2_with (first
              | (go_at_call 11; refine (L1.out).mono ?_; rintro e w4 ⟨rfl, rfl⟩)
              | (go_at_call 12; refine (K1.out).mono ?_; rintro e w5 ⟨rfl, b5⟩; have hcell5 := hcellAll.out w5 (hbel.trans (b5.mono hbel.size)))
              | (go_at_call 14; refine (A1.out _ b5).mono ?_; rintro e w6 ⟨v6, rfl, h6⟩)
              | (go_at_call 22; refine (W1.out _ _ _ h6).mono ?_; rintro e w7 ⟨rfl, b7⟩; have hcell7 := hcellAll.out w7 (((hbel.trans (b5.mono hbel.size)).trans (h6.2.mono (Nat.le_trans hbel.size b5.size))).trans (b7.mono (Nat.le_trans (Nat.le_trans hbel.size b5.size) h6.2.size))))
              | (go_at_call 17; refine (D2.out _ _ _ _ b5 h6 b7).mono ?_; rintro e w8 ⟨rfl, h8⟩))
            have HR := Lib.hid h8
            clear h8 h6
            obtain ⟨pA, pc, rfl, hpcap⟩ : ∃ pA pc, v6 = .slice pA (next).length pc ∧ (next).length ≤ pc := by
              obtain ⟨d3, s3, Z3, k1, k2, k3, k4, k5⟩ := HR.out
              have hpr := k1.pairs
              rw [k5] at hpr
              exact hpr.slice
            go_loopw [14] (fun kk wx => ∃ j : Nat, j ≤ 3 ∧ j ≤ next.length ∧ kk = .int .i64 (j : Int) ∧ RoomOf At Own W (.pointer (some p)) (.pointer (some q)) n (4 * m + 1 + j) (.slice pA (next).length pc) next wx) (fun kk _ => 3 - (intOf kk).toNat)
            case atStart => exact ⟨0, by omega, Nat.zero_le _, rfl, HR.out⟩
            case round =>
              obtain ⟨j, hj3, hjl, rfl, hro⟩ := hrel
              have HRO := Lib.hid hro
              clear hro
              have hj0 : (0 : Int) ≤ (j : Int) := by omega
              have hj9 : (j : Int) ≤ 3 := by omega
              by_cases hin2 : j < next.length ∧ j < 3
              · obtain ⟨hjlt, hj33⟩ := hin2
                have hj1 : (j : Int) < (next.length : Int) := by omega
                have hj2 : (j : Int) < 3 := by omega
                obtain ⟨d3, s3, Z3, k1, k2, k3, k4, k5⟩ := HRO.out
                obtain ⟨y, hy⟩ : ∃ y, next[j]? = some y := ⟨_, List.getElem?_eq_getElem hjlt⟩
                have hpr := k1.pairs
                rw [k5] at hpr
                obtain ⟨g1, g2, g3, g4, g5⟩ := room_again k2 k3 hn4 (by omega) (by omega) (p := y) (by rw [k5]; exact List.mem_of_getElem? hy)
                have hdo : Hid (∀ a, Below (wr.alloc (.cells #[.string (mk y.1), .string (mk y.2), .bool false] 52)).heap.size (wr.alloc (.cells #[.string (mk y.1), .string (mk y.2), .bool false] 52)) a → Calls Tryz.prog 17 #[.pointer (some q), .slice (some ⟨wr.heap.size, 0, none⟩) 1 1] a fun e w' => e = .returned (.int .i64 0) ∧ RoomOf At Own W (.pointer (some p)) (.pointer (some q)) n (4 * m + 1 + (j + 1)) (.slice pA (next).length pc) next w') := Lib.hid (fun a ha => by
                  refine (stands_do_at U H k1 k2 hn4 (by omega) (by omega) ⟨y.1, y.2, false⟩ ha).mono ?_
                  rintro e w' ⟨rfl, r1, r2⟩
                  rw [g1]
                  refine ⟨rfl, _, _, _, ⟨r1, fun i hi => Or.inl (k1.old i hi), ?_⟩, g2.mono (by omega) (by omega), g3, by rw [g5]; exact k4, by rw [g4]; exact k5⟩
                  rw [g4]; exact r2)
                obtain ⟨pb, po, pc', pe, -, -, -⟩ := hpr.shape (by omega)
                injection pe with pe1 pe2 pe3
                subst pe1 pe3
                obtain ⟨c0, c1⟩ := Pairs.at hpr hy
                clear hy hpr g1 g2 g3 g4 g5 k1 k2 k3 k4 k5 HRO
                generalize mk y.1 = y1 at *
                generalize mk y.2 = y2 at *
                go_wp2_with fail
                go_region_law (first
                  | (go_simp; go_at_call 17; refine (hdo.out _ ((Below.refl _ _).drew)).mono ?_; rintro e w9 ⟨rfl, h9⟩))
                all_goals
                  go_wp2_with fail
                  refine ⟨⟨j + 1, by omega, by omega, rfl, h9⟩, ?_⟩
                  show 3 - ((j : Int) + 1).toNat < 3 - (j : Int).toNat
                  omega
              · have HO : Hid (RoomAt At Own W (.pointer (some p)) (.pointer (some q)) n (4 * (m + 1)) (.slice pA (next).length pc) wr) := Lib.hid (HRO.out.at (by omega))
                have hcase : (¬ (j : Int) < (next.length : Int)) ∨ ((j : Int) < (next.length : Int) ∧ ¬ (j : Int) < 3) := by omega
                clear HRO hin2
                rcases hcase with hq1 | ⟨hq1, hq2⟩
                all_goals
                  go_wp2_with fail
                  refine ⟨⟨m + 1, by omega, by omega, rfl, HO.out⟩, ?_⟩
                  show l.length - ((m : Int) + 1).toNat < l.length - (m : Int).toNat
                  omega
        · have hch1 : (Sto.check s.vals x.cs 1048576 != 0) = true := by rw [bne_iff_ne]; exact hch
          have HN : Hid (∀ a, Below wr.heap.size wr a → RoomAt At Own W (.pointer (some p)) (.pointer (some q)) n (4 * (m + 1)) u10 a) := Lib.hid (fun a ha => ⟨d, s, Z, hst.below U H ha, hpl.mono (by omega) (by omega), hcal, hq⟩)
          clear hx hxok hbel hxc hst hpl hcal hg hli hch hq HK
          generalize Sto.check s.vals x.cs 1048576 = ck at *
          generalize x.A = xA at *
          generalize x.len = xl at *
          generalize x.cap = xc at *
          go_wp2_with (first
            | (go_at_call 11; refine (L1.out).mono ?_; rintro e w4 ⟨rfl, rfl⟩)
            | (go_at_call 12; refine (K1.out).mono ?_; rintro e w5 ⟨rfl, b5⟩))
          refine ⟨⟨m + 1, by omega, by omega, rfl, HN.out _ b5⟩, ?_⟩
          show l.length - ((m : Int) + 1).toNat < l.length - (m : Int).toNat
          omega
      · rw [decide_eq_false hli] at L1
        have HN : Hid (RoomAt At Own W (.pointer (some p)) (.pointer (some q)) n (4 * (m + 1)) u10 wr) := Lib.hid (HK.out.mono (by omega))
        clear hx hxok hbel hxc hst hpl hcal hg hli hq HK K1
        generalize x.A = xA at *
        generalize x.len = xl at *
        generalize x.cap = xc at *
        go_wp2_with (go_at_call 11; refine (L1.out).mono ?_; rintro e w4 ⟨rfl, rfl⟩)
        refine ⟨⟨m + 1, by omega, by omega, rfl, HN.out⟩, ?_⟩
        show l.length - ((m : Int) + 1).toNat < l.length - (m : Int).toNat
        omega
    · obtain ⟨d, s, Z, hst, hpl, hcal, hq⟩ := HK.out
      have hg := hpl.good (by omega)
      have E1 := Lib.hid (hst.same U H hg)
      have hcase : (¬ (m : Int) < (len : Int)) ∨ ((m : Int) < (len : Int) ∧ ¬ (m : Int) < 40) := by omega
      clear hst hpl hcal hg HK hgo
      rcases hcase with hq1 | ⟨hq1, hq2⟩
      all_goals
        go_wp2_with (first
          | (go_at_call 19; refine (E1.out).mono ?_; rintro e w4 ⟨rfl, h4, -⟩))
        go_ret
        exact ⟨rfl, h4.sw.bel⟩
end
end Go.Proofs.YtbfjageaheijbaaGreat
