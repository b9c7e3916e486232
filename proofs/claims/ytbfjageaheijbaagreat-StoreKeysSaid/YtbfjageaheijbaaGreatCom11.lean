/- The law's Same: has a store these values? -/
import Derived.Test.YtbfjageaheijbaaGreatCom10
namespace Go.Proofs.YtbfjageaheijbaaGreat
open Go.RowKit Dsk Jnl

section
variable {At : World → (Nat → Prop) → Value → D → Prop} {Own : World → (Nat → Prop) → Value → Value → Nat → Sto.Sr → Prop} {w W : World} {Z : Nat → Prop} {dv sv : Value} {n : Nat} {d : D} {s : Sto.Sr}

set_option maxRecDepth 100000 in
theorem sw_get (H : StoreOk At Own) (h : Sw At Own W Z dv sv n d s w) (hg : Good s) (k : ByteArray) (hk : k.size ≤ 9223372036854775807) :
    Calls Tryz.prog 30 #[sv, .string k] w fun e w' => e = .returned (.tuple #[.string (mk ((Sto.get s.vals k.data.toList).getD [])), .bool (Sto.get s.vals k.data.toList).isSome]) ∧ Sw At Own W Z dv sv n d s w' ∧ SameZ Z w w' :=
  h.call fun F hF _ => H.get hF hg k hk

set_option maxRecDepth 100000 in
theorem sw_len (H : StoreOk At Own) (h : Sw At Own W Z dv sv n d s w) (hg : Good s) :
    Calls Tryz.prog 32 #[sv] w fun e w' => e = .returned (.int .i64 (s.vals.length : Int)) ∧ Sw At Own W Z dv sv n d s w' ∧ SameZ Z w w' :=
  h.call fun F hF _ => H.len hF hg

set_option maxRecDepth 100000 in
theorem sw_bytes (H : StoreOk At Own) (h : Sw At Own W Z dv sv n d s w) (hg : Good s) :
    Calls Tryz.prog 31 #[sv] w fun e w' => e = .returned (.int .i64 (Sto.bytes s.vals : Int)) ∧ Sw At Own W Z dv sv n d s w' ∧ SameZ Z w w' :=
  h.call fun F hF _ => H.bytes hF hg

set_option maxRecDepth 100000 in
theorem sw_keys (H : StoreOk At Own) (h : Sw At Own W Z dv sv n d s w) (hg : Good s) (p : ByteArray) (hp : p.size ≤ 9223372036854775807) :
    Calls Tryz.prog 24 #[sv, .string p] w fun e w' => (∃ v, e = .returned v ∧ Cells w' (NewIn w w') v (texts (Sto.keys s.vals p.data.toList))) ∧ Sw At Own W Z dv sv n d s w' ∧ SameZ Z w w' := by
  obtain ⟨⟨F, h1, h4⟩, h6, h7⟩ := h
  refine (H.keys h1 hg p hp).mono ?_
  rintro e w' ⟨v, rfl, k1, k2, k3⟩
  refine ⟨⟨v, rfl, k1⟩, ⟨⟨Grow F w w', k2, fun i hi => ?_⟩, below_kept h6 k3 (fun i hi => (h4 i hi).1), fun i hi => Nat.lt_of_lt_of_le (h7 i hi) k3.size⟩, k3.size, fun k hk => k3.block k (h7 k hk) (fun hf => (h4 k hf).2 hk)⟩
  rcases hi with hi | hi
  · exact h4 i hi
  · exact ⟨Nat.le_trans h6.size hi.1, fun hz => by have := h7 i hz; omega⟩

set_option maxRecDepth 100000 in
theorem sw_slot (H : StoreOk At Own) (h : Sw At Own W Z dv sv n d s w) : ∃ p, sv = .pointer (some p) := by
  obtain ⟨⟨F, h1, h4⟩, h6, h7⟩ := h
  exact h1.ptr H

set_option maxRecDepth 100000 in
theorem get_ne {l : List Sto.Pr} {k : Sto.Key} {v : List UInt8} (h : Sto.get l k ≠ some v) (hv : (Sto.get l k).isSome = true) : (Sto.get l k).getD [] ≠ v := by
  cases hg : Sto.get l k with
  | none => rw [hg] at hv; cases hv
  | some u =>
    rw [hg] at h
    intro e
    exact h (by rw [show (some u).getD [] = u from rfl] at e; rw [e])

set_option maxRecDepth 100000 in
set_option maxHeartbeats 3200000 in
theorem same_any (U : DiskUse At) (H : StoreOk At Own) {pv : Value} {l : List Sto.Pr} (h : Sw At Own W Z dv sv n d s w) (hg : Good s) (hp : Pairs w Z pv l) (hl : l.length ≤ 100000) (hf : Sto.Fit l) :
    Calls Tryz.prog 19 #[sv, pv] w fun e w' => e = .returned (.bool (decide (s.vals = l))) ∧ Sw At Own W Z dv sv n d s w' ∧ SameZ Z w w' := by
  obtain ⟨A, cap, rfl, hcap⟩ := hp.slice
  obtain ⟨sp, rfl⟩ := sw_slot H h
  have Hp := Lib.hid hp
  have Hg := Lib.hid hg
  have Hf := Lib.hid hf
  have hl' : (l.length : Int) ≤ 100000 := by omega
  have hstart := Lib.hid h
  clear hp hg hf h
  go_enter Tryz.func19, Tryz.ntmps19
  go_wp2_with fail
  go_loopw [5] (fun i wr => ∃ m : Nat, m ≤ l.length ∧ i = .int .i64 (m : Int) ∧ (∀ j x, j < m → l[j]? = some x → Sto.get s.vals x.1 = some x.2) ∧ Sw At Own W Z dv (.pointer (some sp)) n d s wr ∧ SameZ Z w wr) (fun i _ => l.length - (intOf i).toNat)
  case atStart => exact ⟨0, Nat.zero_le _, rfl, (fun j x hj => absurd hj (by omega)), hstart.out, SameZ.refl _ _⟩
  case round =>
    obtain ⟨m, hm, rfl, hall, hsw, hsz⟩ := hrel
    clear hstart
    have Hall := Lib.hid hall
    have Hsw := Lib.hid hsw
    have Hsz := Lib.hid hsz
    clear hall hsw hsz
    by_cases hlt : m < l.length
    · obtain ⟨b, o, cap', e, -, -, hb⟩ := Hp.out.shape (by omega)
      injection e with e1 e2 e3
      subst e1 e3
      obtain ⟨x, hx⟩ : ∃ x, l[m]? = some x := ⟨_, List.getElem?_eq_getElem hlt⟩
      obtain ⟨c0, c1⟩ := Pairs.at (Hsz.out.rws Hp.out (fun _ h => h)) hx
      have hm0 : (0 : Int) ≤ (m : Int) := by omega
      have hm1 : (m : Int) < (l.length : Int) := by omega
      have hget := sw_get H Hsw.out Hg.out (mk x.1) (by rw [mk_len]; have := (Hf.out x (List.mem_of_getElem? hx)).2.1; omega)
      rw [mk_data] at hget
      have hcells : ∀ w' : World, SameZ Z wr w' → w'.cell? ⟨b, o + m * 2 + 1, none⟩ = some (.string (mk x.2)) := fun w' hw' => (Pairs.at ((Hsz.out.trans hw').rws Hp.out (fun _ h => h)) hx).2
      have Hcells := Lib.hid hcells
      by_cases hv : Sto.get s.vals x.1 = some x.2
      · have hall2 : Hid (∀ j y, j < m + 1 → l[j]? = some y → Sto.get s.vals y.1 = some y.2) := Lib.hid (fun j y hj hy => by
          by_cases e : j = m
          · rw [e, hx] at hy
            injection hy with hy
            rw [← hy]; exact hv
          · exact Hall.out j y (by omega) hy)
        rw [hv] at hget
        have hget2 : Hid (Calls Tryz.prog 30 #[.pointer (some sp), .string (mk x.1)] wr fun e w' => e = .returned (.tuple #[.string (mk x.2), .bool true]) ∧ Sw At Own W Z dv (.pointer (some sp)) n d s w' ∧ SameZ Z wr w') := hget
        have b1 : ((mk x.2).toList == (mk x.2).toList) = true := beq_self_eq_true _
        have b2 : ((mk x.2).toList != (mk x.2).toList) = false := by rw [bne, b1]; rfl
        clear hx hget hcells hv c1
        generalize mk x.1 = x1 at *
        generalize mk x.2 = x2 at *
        go_wp2_with (go_at_call 30; refine (hget2.out).mono ?_; rintro e w1 ⟨rfl, hs1, hz1⟩; have c2 := Hcells.out w1 hz1)
        refine ⟨⟨m + 1, by omega, rfl, hall2.out, hs1, Hsz.out.trans hz1⟩, ?_⟩
        show l.length - ((m : Int) + 1).toNat < l.length - (m : Int).toNat
        omega
      · have hne : Hid (decide (s.vals = l) = false) := Lib.hid (decide_eq_false (fun e => hv (Sto.get_mem Hg.out.sorted (by rw [e]; exact List.mem_of_getElem? hx))))
        have hgv := get_ne hv
        cases hi : (Sto.get s.vals x.1).isSome
        · rw [hi] at hget
          have Hget := Lib.hid hget
          have b1 : ((mk ((Sto.get s.vals x.1).getD [])).toList == (mk x.2).toList) = false ∨ ((mk ((Sto.get s.vals x.1).getD [])).toList == (mk x.2).toList) = true := by
            cases ((mk ((Sto.get s.vals x.1).getD [])).toList == (mk x.2).toList)
            · exact Or.inl rfl
            · exact Or.inr rfl
          clear hx hget hcells hv c1 hgv hi
          generalize mk x.1 = x1 at *
          generalize mk x.2 = x2 at *
          generalize mk ((Sto.get s.vals x.1).getD []) = y at *
          rcases b1 with b1 | b1
          all_goals
            have b2 : (y.toList != x2.toList) = ! (y.toList == x2.toList) := rfl
            rw [b1] at b2
            simp only [Bool.not_true, Bool.not_false] at b2
            go_wp2_with (go_at_call 30; refine (Hget.out).mono ?_; rintro e w1 ⟨rfl, hs1, hz1⟩; have c2 := Hcells.out w1 hz1)
            go_ret
            exact ⟨by rw [hne.out]; rfl, hs1, Hsz.out.trans hz1⟩
        · have hgv2 := hgv hi
          rw [hi] at hget
          have Hget := Lib.hid hget
          have b1 : ((mk ((Sto.get s.vals x.1).getD [])).toList == (mk x.2).toList) = false := by
            rw [beq_eq_false_iff_ne, Lib.toList_data, Lib.toList_data]; exact hgv2
          have b2 : ((mk ((Sto.get s.vals x.1).getD [])).toList != (mk x.2).toList) = true := by rw [bne, b1]; rfl
          clear hx hget hcells hv c1 hgv hi hgv2
          generalize mk x.1 = x1 at *
          generalize mk x.2 = x2 at *
          generalize mk ((Sto.get s.vals x.1).getD []) = y at *
          go_wp2_with (go_at_call 30; refine (Hget.out).mono ?_; rintro e w1 ⟨rfl, hs1, hz1⟩; have c2 := Hcells.out w1 hz1)
          go_ret
          exact ⟨by rw [hne.out]; rfl, hs1, Hsz.out.trans hz1⟩
    · obtain rfl : m = l.length := by omega
      have Hlen := Lib.hid (fun (w' : World) (h : Sw At Own W Z dv (.pointer (some sp)) n d s w') => sw_len H h Hg.out)
      have Hbytes := Lib.hid (fun (w' : World) (h : Sw At Own W Z dv (.pointer (some sp)) n d s w') => sw_bytes H h Hg.out)
      have Hkeys := Lib.hid (fun (w' : World) (h : Sw At Own W Z dv (.pointer (some sp)) n d s w') => sw_keys H h Hg.out ⟨#[]⟩ (by decide))
      have Hrb := Lib.hid (fun (w' : World) (h : SameZ Z w w') => ref_bytes (h.rws Hp.out (fun _ h => h)) (by omega) Hf.out)
      have Hrk := Lib.hid (fun (w' : World) (h : SameZ Z w w') => ref_keys (h.rws Hp.out (fun _ h => h)) (by omega) ⟨#[]⟩ (by decide))
      have Hbelow := Lib.hid (fun (a b : World) (h : Sw At Own W Z dv (.pointer (some sp)) n d s a) (k : Below a.heap.size a b) => h.below U H k)
      have hvl : (s.vals.length : Int) ≤ 100000 := by have := Hg.out.few; omega
      have hbl : (Sto.bytes s.vals : Int) ≤ 4200000000 := by have := Sto.bytes_le Hg.out.fit; have := Hg.out.few; omega
      have hbl2 : (Sto.bytes l : Int) ≤ 4200000000 := by have := Sto.bytes_le Hf.out; omega
      have hkl : Hid ((Sto.keys s.vals []).length ≤ 1000000) := Lib.hid (by have := keys_len s.vals []; have := Hg.out.few; omega)
      have hdk : Hid (Sto.keys s.vals [] = Sto.keys l [] → s.vals = l) := Lib.hid (fun e => by
        rw [Sto.keys_all, Sto.keys_all] at e
        exact Sto.same_of e Hg.out.sorted (fun p hp => by
          obtain ⟨j, hj, rfl⟩ := List.getElem_of_mem hp
          exact Hall.out j _ hj (List.getElem?_eq_getElem hj)))
      have hdk2 : Hid (decide (s.vals = l) = decide (Sto.keys s.vals [] = Sto.keys l [])) := Lib.hid (by
        rw [decide_eq_decide]
        exact ⟨fun e => by rw [e], hdk.out⟩)
      by_cases hL : s.vals.length = l.length
      · have hL1 : ((s.vals.length : Int) == (l.length : Int)) = true := by rw [hL]; exact beq_self_eq_true _
        by_cases hB : Sto.bytes s.vals = Sto.bytes l
        · have hB1 : ((Sto.bytes s.vals : Int) == (Sto.bytes l : Int)) = true := by rw [hB]; exact beq_self_eq_true _
          clear hL hB
          generalize s.vals.length = vl at *
          generalize Sto.bytes s.vals = vb at *
          generalize Sto.bytes l = lb at *
          go_wp2_with (first
            | (go_at_call 32; refine (Hlen.out _ Hsw.out).mono ?_; rintro e w1 ⟨rfl, hs1, hz1⟩)
            | (go_at_call 31; refine (Hbytes.out _ hs1).mono ?_; rintro e w2 ⟨rfl, hs2, hz2⟩)
            | (go_at_call 37; refine (Hrb.out _ ((Hsz.out.trans hz1).trans hz2)).mono ?_; rintro e w3 ⟨rfl, hb3⟩; obtain ⟨hs3, hz3⟩ := Hbelow.out _ _ hs2 hb3)
            | (go_at_call 24; refine (Hkeys.out _ hs3).mono ?_; rintro e w4 ⟨⟨kv, rfl, hc4⟩, hs4, hz4⟩)
            | (go_at_call 25; refine (Hrk.out _ ((((Hsz.out.trans hz1).trans hz2).trans hz3).trans hz4)).mono ?_; rintro e w5 ⟨lv, rfl, hc5, hb5⟩; have hc4' := hc4.below hb5; obtain ⟨hs5, hz5⟩ := Hbelow.out _ _ hs4 hb5)
            | (go_at_call 23; refine (texts_any hc4' hc5 hkl.out).mono ?_; rintro e w6 ⟨rfl, hb6⟩; obtain ⟨hs6, hz6⟩ := Hbelow.out _ _ hs5 hb6))
          go_ret
          exact ⟨by rw [hdk2.out]; rfl, hs6, (((((Hsz.out.trans hz1).trans hz2).trans hz3).trans hz4).trans hz5).trans hz6⟩
        · have hB1 : ((Sto.bytes s.vals : Int) == (Sto.bytes l : Int)) = false := by rw [beq_eq_false_iff_ne]; omega
          have hne : Hid (decide (s.vals = l) = false) := Lib.hid (decide_eq_false (fun e => hB (by rw [e])))
          clear hL hB
          generalize s.vals.length = vl at *
          generalize Sto.bytes s.vals = vb at *
          generalize Sto.bytes l = lb at *
          go_wp2_with (first
            | (go_at_call 32; refine (Hlen.out _ Hsw.out).mono ?_; rintro e w1 ⟨rfl, hs1, hz1⟩)
            | (go_at_call 31; refine (Hbytes.out _ hs1).mono ?_; rintro e w2 ⟨rfl, hs2, hz2⟩)
            | (go_at_call 37; refine (Hrb.out _ ((Hsz.out.trans hz1).trans hz2)).mono ?_; rintro e w3 ⟨rfl, hb3⟩; obtain ⟨hs3, hz3⟩ := Hbelow.out _ _ hs2 hb3))
          go_ret
          exact ⟨by rw [hne.out]; rfl, hs3, ((Hsz.out.trans hz1).trans hz2).trans hz3⟩
      · have hL1 : ((s.vals.length : Int) == (l.length : Int)) = false := by rw [beq_eq_false_iff_ne]; omega
        have hne : Hid (decide (s.vals = l) = false) := Lib.hid (decide_eq_false (fun e => hL (by rw [e])))
        clear hL
        generalize s.vals.length = vl at *
        go_wp2_with (first
          | (go_at_call 32; refine (Hlen.out _ Hsw.out).mono ?_; rintro e w1 ⟨rfl, hs1, hz1⟩))
        go_ret
        exact ⟨by rw [hne.out]; rfl, hs1, Hsz.out.trans hz1⟩
end
end Go.Proofs.YtbfjageaheijbaaGreat
/- A store on a disk that is not armed; the calls of a store of the call's own. -/
namespace Go.Proofs.YtbfjageaheijbaaGreat
open Go.RowKit Dsk Jnl

set_option maxRecDepth 100000 in
theorem calm_doing {n : Nat} {d : D} {s : Sto.Sr} {cs : List Sto.Ch} (h : Calm d) : Calm (Sto.doing n d s cs).2.1 := by
  have ha : Calm (Sto.adds n d s.j cs).2.1 := by
    unfold Sto.adds
    split
    · exact h
    · exact calm_append h
  have hk : Calm (Sto.keeps n d s.j cs (Sto.after s.vals cs)).2.1 := by
    unfold Sto.keeps
    split
    · exact calm_rewrite ha
    · exact ha
  unfold Sto.doing
  split
  · split
    · exact h
    · split
      · exact hk
      · exact hk
  · exact h

set_option maxRecDepth 100000 in
/-- A transaction on a disk that is not armed. -/
theorem doing_calm {n : Nat} {d : D} {s : Sto.Sr} {cs : List Sto.Ch} (H : Sto.Lives n d s) (hc : Calm d) (hn : 4 ≤ n) (hn2 : n ≤ 1026) (hseq : s.j.seq < 9223372036854775807) :
    (Sto.check s.vals cs s.quota ≠ 0 ∧ Sto.doing n d s cs = (Sto.check s.vals cs s.quota, d, s)) ∨ (Sto.check s.vals cs s.quota = 0 ∧ 64 * hof n < Sto.whole (Sto.after s.vals cs) ∧ Sto.doing n d s cs = (10, d, s)) ∨
    (Sto.check s.vals cs s.quota = 0 ∧ Sto.whole (Sto.after s.vals cs) ≤ 64 * hof n ∧ (Sto.doing n d s cs).1 = 0 ∧ Sto.Lives n (Sto.doing n d s cs).2.1 (Sto.doing n d s cs).2.2 ∧ (Sto.doing n d s cs).2.2.vals = Sto.after s.vals cs ∧ (Sto.doing n d s cs).2.2.quota = s.quota ∧ (Sto.doing n d s cs).2.2.j.seq ≤ s.j.seq + 1) := by
  by_cases h0 : Sto.check s.vals cs s.quota = 0
  · by_cases hw : Sto.whole (Sto.after s.vals cs) ≤ 64 * hof n
    · refine Or.inr (Or.inr ⟨h0, hw, ?_⟩)
      rcases Sto.keeps_two H hn hn2 hseq h0 hw with h | ⟨_, _, _, h⟩
      · exact h
      · obtain ⟨j, r, j', r', hf, _⟩ := h.two
        have := hf.down
        have hcc := (calm_doing (n := n) (s := s) (cs := cs) hc).1
        rw [this] at hcc
        cases hcc
    · exact Or.inr (Or.inl ⟨h0, by omega, Sto.doing_full h0 (by omega)⟩)
  · exact Or.inl ⟨h0, Sto.doing_bad h0⟩

section
variable {At : World → (Nat → Prop) → Value → D → Prop} {Own : World → (Nat → Prop) → Value → Value → Nat → Sto.Sr → Prop} {w W : World} {Z : Nat → Prop} {dv sv : Value} {n : Nat} {d : D} {s : Sto.Sr} {N : Nat}

set_option maxRecDepth 100000 in
theorem lives_sound (H : Sto.Lives n d s) (hf : d.Fine N) (hn : 4 ≤ n) : Sound n d N := by
  obtain ⟨recs, hl, -⟩ := H.live
  exact live_sound hl hf hn

set_option maxRecDepth 100000 in
theorem lives_held (H : Sto.Lives n d s) : Held n d s.j ∧ s.j.broken = false ∧ d.down = false := by
  obtain ⟨recs, hl, -⟩ := H.live
  exact ⟨hl.toHeld, hl.ok, hl.up⟩

set_option maxRecDepth 100000 in
/-- A transaction. -/
theorem sw_do (H : StoreOk At Own) (h : Sw At Own W Z dv sv n d s w) (HL : Sto.Lives n d s) (hg : Good s) (hf : d.Fine N) (hn : 4 ≤ n) (hN : N + (2 * hof n + 6) ≤ 100000) {G : Nat → Prop} {cv : Value} {cs : List Sto.Ch} (hc : Changes w G cv cs) (hG : ∀ i, G i → Z i) (hl : cs.length ≤ 9223372036854775807) :
    Calls Tryz.prog 17 #[sv, cv] w fun e w' => e = .returned (.int .i64 (Sto.doing n d s cs).1) ∧ Sw At Own W Z dv sv n (Sto.doing n d s cs).2.1 (Sto.doing n d s cs).2.2 w' ∧ SameZ Z w w' := by
  obtain ⟨k1, k2, -⟩ := lives_held HL
  exact h.call fun F hF hz => H.doing hF HL.up k2 hg (lives_sound HL hf hn) k1 hN hc (fun k hk hfk => hz k hfk (hG k hk)) hl

set_option maxRecDepth 100000 in
/-- The disk is opened. -/
theorem dw_store (U : DiskUse At) (H : StoreOk At Own) (h : Dw At W Z dv d w) (HL : Sto.Lives n d s) (hf : d.Fine N) (hn : 4 ≤ n) (hN : N ≤ 100000) {q : Int} (h0 : 0 ≤ q) (h1 : q ≤ 1048576) :
    Calls Tryz.prog 10 #[dv, .int .i64 q] w fun e w' => ∃ p, e = .returned (.tuple #[.pointer (some p), .int .i64 0]) ∧ Sw At Own W Z dv (.pointer (some p)) n d ⟨s.j, s.vals, q, false⟩ w' ∧ SameZ Z w w' := by
  obtain ⟨recs, hl, hr⟩ := HL.live
  obtain ⟨⟨F, k1, k4⟩, k6, k7⟩ := h
  refine (H.opened k1 (lives_sound HL hf hn) hN hl.up (hl.opens hn) hr h0 h1).mono ?_
  rintro e w' ⟨sv, rfl, g1, g2⟩
  obtain ⟨p, rfl⟩ := g1.ptr H
  refine ⟨p, rfl, ⟨⟨_, g1, fun i hi => ?_⟩, below_kept k6 g2 (fun i hi => (k4 i hi).1), fun i hi => Nat.lt_of_lt_of_le (k7 i hi) g2.size⟩, g2.size, fun k hk => g2.block k (k7 k hk) (fun hf => (k4 k hf).2 hk)⟩
  rcases hi with hi | hi
  · exact k4 i hi
  · exact ⟨Nat.le_trans k6.size hi.1, fun hz => by have := k7 i hz; omega⟩

set_option maxRecDepth 100000 in
/-- The disk of a store. -/
theorem sw_disk (h : Sw At Own W Z dv sv n d s w) : Dw At W Z dv d w := by
  obtain ⟨⟨F, ⟨F1, F2, h1, h2, h3, h4, h5⟩, k⟩, h6, h7⟩ := h
  exact ⟨⟨F1, h1, fun i hi => k i (h4 i hi)⟩, h6, h7⟩

set_option maxRecDepth 100000 in
theorem good_of (HL : Sto.Lives n d s) (hw : Sto.whole s.vals ≤ 200000) (h0 : 0 ≤ s.quota) (h1 : s.quota ≤ 1048576) : Good s :=
  ⟨HL.vals.1, HL.vals.2, by have := Sto.whole_len s.vals; omega, h0, h1⟩

set_option maxRecDepth 100000 in
/-- A disk is made ready. -/
theorem store_format (U : DiskUse At) (H : StoreOk At Own) (hn : 4 ≤ n) (hn2 : n ≤ 4096) (h : Dw At W Z dv (Dsk.new n) w) :
    Calls Tryz.prog 8 #[dv] w fun e w' => e = .returned (.int .i64 0) ∧ Dw At W Z dv (Jnl.format (Dsk.new n)).2 w' ∧ SameZ Z w w' := by
  obtain ⟨f1, -⟩ := format_new hn
  have hsd : Sound n (Dsk.new n) 0 := ⟨shape_new n, new_fine n hn2, hn, fun k hk => by unfold Jnl.now; rw [new_last n k hk]; exact fill_full _ (by decide)⟩
  rw [← f1]
  exact h.call (fun F hF => H.format hF hsd (by decide))

set_option maxRecDepth 100000 in
/-- What stands there then. -/
theorem format_lives (hn : 4 ≤ n) (hn2 : n ≤ 4096) (q : Int) : Sto.Lives n (Jnl.format (Dsk.new n)).2 ⟨⟨1, 0, [], false⟩, [], q, false⟩ ∧ Calm (Jnl.format (Dsk.new n)).2 ∧ (Jnl.format (Dsk.new n)).2.Fine 3 :=
  ⟨⟨⟨[], (format_new hn).2, rfl⟩, rfl⟩, calm_format (calm_new n), (format_fine (new_fine n hn2)).mono (by decide)⟩
end
end Go.Proofs.YtbfjageaheijbaaGreat
/- What must come at any rate ('awake' of layer 5). -/
set_option linter.unusedSimpArgs false
set_option linter.unusedVariables false
namespace Go.Proofs.YtbfjageaheijbaaGreat
open Go.RowKit Dsk Jnl

set_option maxRecDepth 100000 in
theorem append_room {n : Nat} {d : D} {j : J} {l a : List (List UInt8)} (H : Live n d j l) (hc : Calm d) (hn : 4 ≤ n) (hn2 : n ≤ 4096) (hseq : j.seq < 9223372036854775807) (ha : (Frm.all a).length ≤ 65536) (hs : ∀ t ∈ a, t.length < 9223372036854775808)
    (hf : j.bytes.length + (Frm.all a).length ≤ 64 * hof n) :
    (Jnl.append n d j a).1 = 0 ∧ Live n (Jnl.append n d j a).2.1 (Jnl.append n d j a).2.2 (l ++ a) ∧ (Jnl.append n d j a).2.2.seq ≤ j.seq + 1 := by
  rcases append_calm H hc hn hn2 hseq ha hs with h | h
  · exact h
  · exfalso
    unfold Jnl.append at h
    rw [if_neg (by rw [H.ok]; decide), if_neg (by omega), if_neg (by omega), if_neg (by omega)] at h
    by_cases he : a = []
    · rw [if_pos he] at h
      have := congrArg Prod.fst h
      revert this
      show ¬ ((0 : Int) = 10)
      decide
    · rw [if_neg he] at h
      have hall : j.bytes ++ Frm.all a = Frm.all (l ++ a) := by rw [H.recs]; unfold Frm.all; rw [List.flatMap_append]
      rcases lays_keeps H hn hn2 hseq H.half (Or.inl ⟨rfl, rfl⟩) (by rw [List.length_append]; omega) hall (fun t ht => by
        rcases List.mem_append.1 ht with ht | ht
        · exact H.small t ht
        · exact hs t ht) with ⟨r1, -⟩ | ⟨r1, -⟩
      · rw [h] at r1; revert r1; show ¬ ((10 : Int) = 0); decide
      · rw [h] at r1; revert r1; show ¬ ((10 : Int) = 12); decide

def ab : List (List UInt8) := [[97], [98]]

set_option maxRecDepth 100000 in
theorem ab_len : (Frm.all ab).length = 12 := by
  have e : Frm.all ab = Frm.one [97] ++ (Frm.one [98] ++ []) := rfl
  have h1 : (Leb.enc 1).length = 1 := by decide
  rw [e]
  unfold Frm.one
  simp only [List.length_append, Frm.sumOf_len, List.length_cons, List.length_nil, Nat.zero_add, h1]

section
variable {At : World → (Nat → Prop) → Value → D → Prop} {Own : World → (Nat → Prop) → Value → Value → Nat → J → Prop}

set_option maxRecDepth 100000 in
theorem ab_cells (w : World) : Cells (w.alloc (.cells #[.string ⟨#[97]⟩, .string ⟨#[98]⟩] 9)) (fun i => i = w.heap.size) (.slice (some ⟨w.heap.size, 0, none⟩) 2 2) (texts ab) :=
  ⟨some ⟨w.heap.size, 0, none⟩, 2, rfl, Nat.le_refl _, fun _ => ⟨w.heap.size, 0, rfl, rfl, by simp, fun i u hu => by
    rw [Nat.zero_add, (Row.made w 9 #[.string ⟨#[97]⟩, .string ⟨#[98]⟩]).at]
    rw [show (#[.string ⟨#[97]⟩, .string ⟨#[98]⟩] : Array Value) = (texts ab).toArray from rfl, List.getElem?_toArray]
    exact hu⟩⟩

end
end Go.Proofs.YtbfjageaheijbaaGreat
/- What must come at any rate ('awake' of layer 6). -/
namespace Go.Proofs.YtbfjageaheijbaaGreat
open Go.RowKit Dsk Jnl

def abC : List Sto.Ch := [⟨[97], [49], false⟩, ⟨[98], [50], false⟩]
def abP : List Sto.Pr := [([97], [49]), ([98], [50])]

set_option maxRecDepth 100000 in
theorem abC_after : Sto.after [] abC = abP := by decide +kernel
set_option maxRecDepth 100000 in
theorem abC_check : Sto.check [] abC 100 = 0 := by decide +kernel
set_option maxRecDepth 100000 in
theorem abP_bytes : Sto.bytes abP = 4 := by decide +kernel
set_option maxRecDepth 100000 in
theorem abP_keys : Sto.keys abP [] = ab := by decide +kernel
set_option maxRecDepth 100000 in
theorem abP_get : Sto.get abP [98] = some [50] := by decide +kernel

set_option maxRecDepth 100000 in
theorem all_le (k : Nat) : ∀ (l : List (List UInt8)), (∀ t ∈ l, t.length ≤ k) → (Frm.all l).length ≤ l.length * (k + 13)
  | [], _ => Nat.zero_le _
  | t :: l, h => by
    have h1 := all_le k l (fun x hx => h x (List.mem_cons_of_mem _ hx))
    have h2 := h t (by simp)
    have h3 := (Leb.enc_len t.length).2
    rw [Frm.all_cons, List.length_append, Frm.one_len, List.length_cons, Nat.add_one_mul]
    omega

set_option maxRecDepth 100000 in
theorem abP_whole : Sto.whole abP ≤ 100 := by
  have h : ∀ t ∈ Sto.singles abP, t.length ≤ 5 := by decide +kernel
  have := all_le 5 (Sto.singles abP) h
  have e : (Sto.singles abP).length = 2 := rfl
  rw [e] at this
  show (Frm.all (Sto.singles abP)).length ≤ 100
  omega

set_option maxRecDepth 100000 in
theorem abC_cells (w : World) : Changes (w.alloc (.cells #[.string ⟨#[97]⟩, .string ⟨#[49]⟩, .bool false, .string ⟨#[98]⟩, .string ⟨#[50]⟩, .bool false] 52)) (fun i => i = w.heap.size) (.slice (some ⟨w.heap.size, 0, none⟩) 2 2) abC :=
  ⟨some ⟨w.heap.size, 0, none⟩, 2, rfl, Nat.le_refl _, fun _ => ⟨w.heap.size, 0, rfl, rfl, by simp, fun i x hx j u hu => by
    rw [(Row.made w _ _).at]
    match i, hx with
    | 0, hx =>
      simp [abC] at hx; subst hx
      match j, hu with
      | 0, hu => simp [chV] at hu; subst hu; rfl
      | 1, hu => simp [chV] at hu; subst hu; rfl
      | 2, hu => simp [chV] at hu; subst hu; rfl
    | 1, hx =>
      simp [abC] at hx; subst hx
      match j, hu with
      | 0, hu => simp [chV] at hu; subst hu; rfl
      | 1, hu => simp [chV] at hu; subst hu; rfl
      | 2, hu => simp [chV] at hu; subst hu; rfl⟩⟩

section
variable {At : World → (Nat → Prop) → Value → D → Prop} {Own : World → (Nat → Prop) → Value → Value → Nat → Sto.Sr → Prop}

set_option maxRecDepth 100000 in
set_option maxHeartbeats 1600000 in
theorem sto_awake (U : DiskUse At) (H : StoreOk At Own) (w : World) : Calls Tryz.prog 9 #[] w fun e w' => e = .returned (.bool true) ∧ Below w.heap.size w w' := by
  obtain ⟨l1, cal1, fin1⟩ := format_lives (n := 20) (by decide) (by decide) 100
  have g1 : Good ⟨⟨1, 0, [], false⟩, [], 100, false⟩ := ⟨List.Pairwise.nil, (fun p hp => by cases hp), by decide, by decide, by decide⟩
  have hq : (⟨⟨1, 0, [], false⟩, [], 100, false⟩ : Sto.Sr).j.seq < 9223372036854775807 := by decide
  have hdo : (Sto.doing 20 (Jnl.format (Dsk.new 20)).2 ⟨⟨1, 0, [], false⟩, [], 100, false⟩ abC).1 = 0 ∧ Sto.Lives 20 (Sto.doing 20 (Jnl.format (Dsk.new 20)).2 ⟨⟨1, 0, [], false⟩, [], 100, false⟩ abC).2.1 (Sto.doing 20 (Jnl.format (Dsk.new 20)).2 ⟨⟨1, 0, [], false⟩, [], 100, false⟩ abC).2.2 ∧
      (Sto.doing 20 (Jnl.format (Dsk.new 20)).2 ⟨⟨1, 0, [], false⟩, [], 100, false⟩ abC).2.2.vals = abP := by
    have hw := abP_whole
    rcases doing_calm (cs := abC) l1 cal1 (by decide) (by decide) hq with ⟨h, -⟩ | ⟨-, h, -⟩ | ⟨-, -, h1, h2, h3, -⟩
    · exact absurd abC_check h
    · rw [abC_after] at h
      have e : hof 20 = 9 := rfl
      omega
    · rw [abC_after] at h3
      exact ⟨h1, h2, h3⟩
  obtain ⟨d1, l2, v2⟩ := hdo
  have fin2 := Sto.doing_fine (n := 20) (s := ⟨⟨1, 0, [], false⟩, [], 100, false⟩) (cs := abC) fin1
  have C0 := Lib.hid (dw_new U 20 w (by decide) (by decide))
  have C1 : Hid (∀ W p, Dw At w (fun _ => False) (.pointer (some p)) (Dsk.new 20) W → Calls Tryz.prog 8 #[.pointer (some p)] W fun e w' => e = .returned (.int .i64 0) ∧ Dw At w (fun _ => False) (.pointer (some p)) (Jnl.format (Dsk.new 20)).2 w' ∧ SameZ (fun _ => False) W w') :=
    Lib.hid (fun W p h => store_format U H (by decide) (by decide) h)
  have C2 : Hid (∀ W p, Dw At w (fun _ => False) (.pointer (some p)) (Jnl.format (Dsk.new 20)).2 W → Calls Tryz.prog 10 #[.pointer (some p), .int .i64 100] W fun e w' => ∃ q, e = .returned (.tuple #[.pointer (some q), .int .i64 0]) ∧ Sw At Own w (fun _ => False) (.pointer (some p)) (.pointer (some q)) 20 (Jnl.format (Dsk.new 20)).2 ⟨⟨1, 0, [], false⟩, [], 100, false⟩ w' ∧ SameZ (fun _ => False) W w') :=
    Lib.hid (fun W p h => dw_store U H h l1 fin1 (by decide) (by decide) (by decide) (by decide))
  have C3 : Hid (∀ W p q, Sw At Own w (fun _ => False) (.pointer (some p)) (.pointer (some q)) 20 (Jnl.format (Dsk.new 20)).2 ⟨⟨1, 0, [], false⟩, [], 100, false⟩ W → Calls Tryz.prog 17 #[.pointer (some q), .slice (some ⟨W.heap.size, 0, none⟩) 2 2] (W.alloc (.cells #[.string ⟨#[97]⟩, .string ⟨#[49]⟩, .bool false, .string ⟨#[98]⟩, .string ⟨#[50]⟩, .bool false] 52)) fun e w' =>
      e = .returned (.int .i64 0) ∧ Sw At Own w (fun _ => False) (.pointer (some p)) (.pointer (some q)) 20 (Sto.doing 20 (Jnl.format (Dsk.new 20)).2 ⟨⟨1, 0, [], false⟩, [], 100, false⟩ abC).2.1 (Sto.doing 20 (Jnl.format (Dsk.new 20)).2 ⟨⟨1, 0, [], false⟩, [], 100, false⟩ abC).2.2 w') := Lib.hid (fun W p q h => by
    have hb := h.more U H (w' := W.alloc (.cells #[.string ⟨#[97]⟩, .string ⟨#[49]⟩, .bool false, .string ⟨#[98]⟩, .string ⟨#[50]⟩, .bool false] 52)) ((Below.refl _ _).alloc (Nat.le_refl _) _) (Y := fun i => i = W.heap.size) (fun i hi => Or.inr (by subst hi; simp))
    rw [← d1]
    refine (sw_do H hb l1 g1 fin1 (by decide) (by decide) (abC_cells W) (fun k hk => hk) (by decide)).mono ?_
    rintro e w' ⟨rfl, k1, -⟩
    exact ⟨rfl, k1.less (fun i hi => hi.elim)⟩)
  obtain ⟨s2, hs2⟩ : ∃ s2, s2 = (Sto.doing 20 (Jnl.format (Dsk.new 20)).2 ⟨⟨1, 0, [], false⟩, [], 100, false⟩ abC).2.2 := ⟨_, rfl⟩
  obtain ⟨e2, he2⟩ : ∃ e2, e2 = (Sto.doing 20 (Jnl.format (Dsk.new 20)).2 ⟨⟨1, 0, [], false⟩, [], 100, false⟩ abC).2.1 := ⟨_, rfl⟩
  rw [← hs2, ← he2] at l2 C3
  rw [← hs2] at v2
  rw [← he2] at fin2
  have l3 : Sto.Lives 20 e2 ⟨s2.j, s2.vals, 100, false⟩ := ⟨l2.live, rfl⟩
  have g3 : Good ⟨s2.j, abP, 100, false⟩ := by
    rw [v2] at l3
    exact good_of l3 (by have := abP_whole; show Sto.whole abP ≤ _; omega) (show (0 : Int) ≤ 100 by decide) (show (100 : Int) ≤ 1048576 by decide)
  have C4 : Hid (∀ W p q, Sw At Own w (fun _ => False) (.pointer (some p)) (.pointer (some q)) 20 e2 s2 W → Calls Tryz.prog 10 #[.pointer (some p), .int .i64 100] W fun e w' => ∃ q, e = .returned (.tuple #[.pointer (some q), .int .i64 0]) ∧ Sw At Own w (fun _ => False) (.pointer (some p)) (.pointer (some q)) 20 e2 ⟨s2.j, abP, 100, false⟩ w' ∧ SameZ (fun _ => False) W w') :=
    Lib.hid (fun W p q h => by
      have := dw_store (q := 100) U H (sw_disk h) l3 fin2 (by decide) (by decide) (by decide) (by decide)
      rw [v2] at this
      exact this)
  have C5 : Hid (∀ W p q, Sw At Own w (fun _ => False) (.pointer (some p)) (.pointer (some q)) 20 e2 ⟨s2.j, abP, 100, false⟩ W → Calls Tryz.prog 30 #[.pointer (some q), .string ⟨#[98]⟩] W fun e w' => e = .returned (.tuple #[.string ⟨#[50]⟩, .bool true]) ∧ Sw At Own w (fun _ => False) (.pointer (some p)) (.pointer (some q)) 20 e2 ⟨s2.j, abP, 100, false⟩ w' ∧ SameZ (fun _ => False) W w') :=
    Lib.hid (fun W p q h => by
      have := sw_get H h g3 ⟨#[98]⟩ (by decide)
      have e : Sto.get (⟨s2.j, abP, 100, false⟩ : Sto.Sr).vals (⟨#[98]⟩ : ByteArray).data.toList = some [50] := abP_get
      rw [e] at this
      exact this)
  have C6 : Hid (∀ W p q, Sw At Own w (fun _ => False) (.pointer (some p)) (.pointer (some q)) 20 e2 ⟨s2.j, abP, 100, false⟩ W → Calls Tryz.prog 24 #[.pointer (some q), .string ⟨#[]⟩] W fun e w' => (∃ v, e = .returned v ∧ Cells w' (NewIn W w') v (texts ab)) ∧ Sw At Own w (fun _ => False) (.pointer (some p)) (.pointer (some q)) 20 e2 ⟨s2.j, abP, 100, false⟩ w') :=
    Lib.hid (fun W p q h => by
      refine (sw_keys H h g3 ⟨#[]⟩ (by decide)).mono ?_
      rintro e w' ⟨⟨v, rfl, k1⟩, k2, -⟩
      have e : Sto.keys (⟨s2.j, abP, 100, false⟩ : Sto.Sr).vals (⟨#[]⟩ : ByteArray).data.toList = ab := abP_keys
      rw [e] at k1
      exact ⟨⟨v, rfl, k1⟩, k2⟩)
  have C7 : Hid (∀ W V p q v, Sw At Own w (fun _ => False) (.pointer (some p)) (.pointer (some q)) 20 e2 ⟨s2.j, abP, 100, false⟩ W → Cells W V v (texts ab) →
      Calls Tryz.prog 23 #[v, .slice (some ⟨W.heap.size, 0, none⟩) 2 2] (W.alloc (.cells #[.string ⟨#[97]⟩, .string ⟨#[98]⟩] 9)) fun e w' => e = .returned (.bool true) ∧ Sw At Own w (fun _ => False) (.pointer (some p)) (.pointer (some q)) 20 e2 ⟨s2.j, abP, 100, false⟩ w') := Lib.hid (fun W V p q v h hc => by
    have hb : Below W.heap.size W (W.alloc (.cells #[.string ⟨#[97]⟩, .string ⟨#[98]⟩] 9)) := (Below.refl _ _).alloc (Nat.le_refl _) _
    obtain ⟨k1, -⟩ := h.below U H hb
    refine (texts_same (hc.below hb) (ab_cells W) (by decide)).mono ?_
    rintro e w' ⟨rfl, hb2⟩
    exact ⟨rfl, (k1.below U H hb2).1⟩)
  have C8 : Hid (∀ W p q, Sw At Own w (fun _ => False) (.pointer (some p)) (.pointer (some q)) 20 e2 ⟨s2.j, abP, 100, false⟩ W → Calls Tryz.prog 31 #[.pointer (some q)] W fun e w' => e = .returned (.int .i64 4) ∧ Below w.heap.size w w') :=
    Lib.hid (fun W p q h => by
      refine (sw_bytes H h g3).mono ?_
      rintro e w' ⟨rfl, k1, -⟩
      have e : Sto.bytes (⟨s2.j, abP, 100, false⟩ : Sto.Sr).vals = 4 := abP_bytes
      exact ⟨by rw [e]; rfl, k1.bel⟩)
  clear l1 cal1 fin1 g1 hq d1 l2 v2 fin2 hs2 he2 l3 g3
  generalize (Jnl.format (Dsk.new 20)).2 = d1 at *
  go_enter Tryz.func9, Tryz.ntmps9
  go_wp2_with fail
  refine C0.out.mono ?_
  rintro e w1 ⟨p, rfl, h1⟩
  have H1 := Lib.hid h1
  clear h1
  go_wp2_with fail
  refine (C1.out _ _ H1.out).mono ?_
  rintro e w2 ⟨rfl, h2, -⟩
  have H2 := Lib.hid h2
  clear h2 H1
  go_wp2_with fail
  refine (C2.out _ _ H2.out).mono ?_
  rintro e w3 ⟨q, rfl, h3, -⟩
  have H3 := Lib.hid h3
  clear h3 H2
  go_wp2_with fail
  refine (C3.out _ _ _ H3.out).mono ?_
  rintro e w4 ⟨rfl, h4⟩
  have H4 := Lib.hid h4
  clear h4 H3
  go_wp2_with fail
  refine (C4.out _ _ _ H4.out).mono ?_
  rintro e w5 ⟨q2, rfl, h5, -⟩
  have H5 := Lib.hid h5
  clear h5 H4
  go_wp2_with fail
  refine (C5.out _ _ _ H5.out).mono ?_
  rintro e w6 ⟨rfl, h6, -⟩
  have H6 := Lib.hid h6
  clear h6 H5
  go_wp2_with fail
  refine (C6.out _ _ _ H6.out).mono ?_
  rintro e w7 ⟨⟨v, rfl, hc⟩, h7⟩
  have H7 := Lib.hid h7
  have Hc := Lib.hid hc
  clear h7 hc H6
  go_wp2_with fail
  refine (C7.out _ _ _ _ _ H7.out Hc.out).mono ?_
  rintro e w8 ⟨rfl, h8⟩
  have H8 := Lib.hid h8
  clear h8 H7
  go_wp2_with fail
  refine (C8.out _ _ _ H8.out).mono ?_
  rintro e w9 ⟨rfl, h9⟩
  have H9 := Lib.hid h9
  go_wp2_with fail
  go_ret
  exact ⟨rfl, H9.out⟩
end
end Go.Proofs.YtbfjageaheijbaaGreat
