/- The landed store: a transaction is done. -/
import Derived.Test.YtbfjageaheijbaaGreatCom38
set_option linter.unusedSimpArgs false
set_option linter.unusedVariables false
namespace Go.Proofs.YtbfjageaheijbaaGreat
open Go.RowKit Dsk Jnl

section
variable {w w' : World} {F F5 G : Nat → Prop} {dv sv jv : Value} {n : Nat} {d : D} {s : Sto.Sr} {b bm bn p : Nat} {N : Nat} {nx : List Sto.Pr} {W W2 : World}

/-- While a transaction is being done: F: the disk's and the journal's blocks ahead of it. -/
structure Dn (w : World) (F : Nat → Prop) (dv jv : Value) (n : Nat) (d : D) (s : Sto.Sr) (b bm bn p : Nat) (nx : List Sto.Pr) (W : World) (F5 : Nat → Prop) : Prop where
  jat : JAt AtL JOwn W F5 dv jv n d s.j
  lt : ∀ k, F5 k → k < W.heap.size
  row : Row W b 81 (scells jv bm s)
  old : MapAt W bm s.vals
  new : MapAt W bn nx
  box : Row W p 76 (vcells bn nx)
  nb : ¬ F5 b
  nm : ¬ F5 bm
  nn : ¬ F5 bn
  np : ¬ F5 p
  sub : ∀ k, F5 k → Grow F w W k
  kept : Kept F w W

set_option maxRecDepth 100000 in
theorem Dn.below (h : Dn w F dv jv n d s b bm bn p nx W F5) (k : Below W.heap.size W W2) : Dn w F dv jv n d s b bm bn p nx W2 F5 :=
  ⟨jat_under h.jat k, fun i hi => Nat.lt_of_lt_of_le (h.lt i hi) k.size, h.row.below k h.row.inHeap, h.old.below k h.old.lt, h.new.below k h.new.lt, h.box.below k h.box.inHeap, h.nb, h.nm, h.nn, h.np, fun i hi => Grow.within (h.sub i hi) k.size, h.kept.trans (Kept.ofBelow k F) (fun _ _ h => h)⟩

set_option maxRecDepth 100000 in
theorem Dn.call (h : Dn w F dv jv n d s b bm bn p nx W F5) (h1 : JAt AtL JOwn W2 (Grow F5 W W2) dv jv n d s.j) (h2 : Kept F5 W W2) : Dn w F dv jv n d s b bm bn p nx W2 (Grow F5 W W2) := by
  have hz := h2.size
  have hw := h.kept.size
  have hn : ∀ x, x < W.heap.size → ¬ F5 x → ¬ Grow F5 W W2 x := fun x hx hf hg => by
    rcases hg with hg | hg
    · exact hf hg
    · omega
  refine ⟨h1, fun i hi => Grow.lt hi h.lt hz, h.row.kept h2 h.nb, h.old.kept h2 h.nm, h.new.kept h2 h.nn, h.box.kept h2 h.np, hn b h.row.inHeap h.nb, hn bm h.old.lt h.nm, hn bn h.new.lt h.nn, hn p h.box.inHeap h.np, fun i hi => ?_, h.kept.trans h2 (fun i hi hf => ?_)⟩
  · rcases hi with hi | hi
    · exact Grow.within (h.sub i hi) hz
    · exact Or.inr (by omega)
  · rcases h.sub i hf with hf | hf
    · exact hf
    · omega

set_option maxRecDepth 100000 in
/-- A store whose map is block m, whose journal and disk lie in F6. -/
theorem sat_of {F0 F6 : Nat → Prop} {d' : D} {s' : Sto.Sr} {m : Nat} (hj : JAt AtL JOwn W F6 dv jv n d' s'.j) (hlt : ∀ k, F6 k → k < W.heap.size) (hr : Row W b 81 (scells jv m s')) (hm : MapAt W m s'.vals) (hb : ¬ F6 b) (hnm : ¬ F6 m)
    (h1 : ∀ k, F6 k → F0 k) (h2 : F0 b) (h3 : F0 m) : SAt AtL SOwn W F0 dv (.pointer (some ⟨b, 0, none⟩)) n d' s' := by
  obtain ⟨G1, G2, g1, g2, g3, g4, g5⟩ := hj
  refine ⟨G1, fun k => G2 k ∨ k = b ∨ k = m, g1, ⟨b, m, jv, G2, rfl, ⟨hr, g2, hm, Or.inr (Or.inl rfl), Or.inr (Or.inr rfl), fun k hk => ⟨Or.inl hk, fun e => hb (e ▸ g5 k hk), fun e => hnm (e ▸ g5 k hk)⟩, fun k hk => ?_⟩⟩, fun k hk hk2 => ?_, fun k hk => h1 k (g4 k hk), fun k hk => ?_⟩
  · rcases hk with hk | hk | hk
    · exact hlt k (g5 k hk)
    · rw [hk]; exact hr.inHeap
    · rw [hk]; exact hm.lt
  · rcases hk2 with hk2 | hk2 | hk2
    · exact g3 k hk hk2
    · exact hb (hk2 ▸ g4 k hk)
    · exact hnm (hk2 ▸ g4 k hk)
  · rcases hk with hk | hk | hk
    · exact h1 k (g5 k hk)
    · rw [hk]; exact h2
    · rw [hk]; exact h3

set_option maxRecDepth 100000 in
theorem Dn.away (h : Dn w F dv jv n d s b bm bn p nx W F5) {x : Nat} (hx : x < W.heap.size) (hf : ¬ F5 x) : ¬ Grow F5 W W2 x := fun hg => by
  rcases hg with hg | hg
  · exact hf hg
  · omega

set_option maxRecDepth 100000 in
theorem jat_kept {w1 w2 : World} {F1 F2 : Nat → Prop} {j : J} (h : JAt AtL JOwn w1 F1 dv jv n d j) (k : Kept F2 w1 w2) (hd : ∀ i, F1 i → ¬ F2 i) : JAt AtL JOwn w2 F1 dv jv n d j := by
  obtain ⟨G1, G2, h1, h2, h3, h4, h5⟩ := h
  exact ⟨G1, G2, atl_kept h1 k (fun i hi => hd i (h4 i hi)), jown_kept h2 k (fun i hi => hd i (h5 i hi)), h3, h4, h5⟩

set_option maxRecDepth 100000 in
/-- The journal is broken: so is the store. -/
theorem Dn.bad {F0 : Nat → Prop} {d' : D} {j' : J} (k : Dn w F dv jv n d s b bm bn p nx W F5) (hj : JAt AtL JOwn W2 (Grow F5 W W2) dv jv n d' j') (hk : Kept F5 W W2) (hFp : ∀ k, F k → F0 k) (hB : F0 b) (hM : F0 bm) :
    SAt AtL SOwn (W2.setCell ⟨b, 5, none⟩ (.bool true)) (Grow F0 w (W2.setCell ⟨b, 5, none⟩ (.bool true))) dv (.pointer (some ⟨b, 0, none⟩)) n d' ⟨j', s.vals, s.quota, true⟩ ∧ Kept F0 w (W2.setCell ⟨b, 5, none⟩ (.bool true)) := by
  have hz := hk.size
  have hw := k.kept.size
  have hst : Kept (fun i => i = b) W2 (W2.setCell ⟨b, 5, none⟩ (.bool true)) := (Kept.refl (fun i => i = b) W2).stored (p := ⟨b, 5, none⟩) (Or.inl rfl) (.bool true)
  have hnb := k.away (W2 := W2) k.row.inHeap k.nb
  have hnm := k.away (W2 := W2) k.old.lt k.nm
  have hne : bm ≠ b := fun e => k.old.not_row k.row e.symm
  have hrow := (k.row.kept hk k.nb).stored 5 (.bool true)
  refine ⟨sat_of (m := bm) (jat_kept hj hst (fun i hi e => hnb (e ▸ hi))) (fun i hi => Nat.lt_of_lt_of_le (Grow.lt hi k.lt hz) hst.size) hrow ((k.old.kept hk k.nm).kept hst hne) hnb hnm (fun i hi => ?_) (Or.inl hB) (Or.inl hM), ?_⟩
  · rcases hi with hi | hi
    · rcases k.sub i hi with hi | hi
      · exact Or.inl (hFp i hi)
      · exact Or.inr (by have := hst.size; omega)
    · exact Or.inr (by have := hst.size; omega)
  · refine ((k.kept.mono hFp).trans hk (fun i hi hf => ?_)).trans hst (fun i _ e => e ▸ hB)
    rcases k.sub i hf with hf | hf
    · exact hFp i hf
    · omega

set_option maxRecDepth 100000 in
/-- The changes are applied. -/
theorem Dn.good {F0 : Nat → Prop} {d' : D} {j' : J} (k : Dn w F dv jv n d s b bm bn p nx W F5) (hbr : s.broken = false) (hj : JAt AtL JOwn W2 (Grow F5 W W2) dv jv n d' j') (hk : Kept F5 W W2) (hFp : ∀ k, F k → F0 k) (hB : F0 b) (hbn : w.heap.size ≤ bn) :
    SAt AtL SOwn (((W2.setCell ⟨b, 1, none⟩ (.map (some bn))).setCell ⟨b, 2, none⟩ (.int .i64 (Sto.bytes nx : Int))).setCell ⟨b, 3, none⟩ (.int .i64 (Sto.whole nx : Int))) (Grow F0 w (((W2.setCell ⟨b, 1, none⟩ (.map (some bn))).setCell ⟨b, 2, none⟩ (.int .i64 (Sto.bytes nx : Int))).setCell ⟨b, 3, none⟩ (.int .i64 (Sto.whole nx : Int)))) dv (.pointer (some ⟨b, 0, none⟩)) n d' ⟨j', nx, s.quota, false⟩ ∧
      Kept F0 w (((W2.setCell ⟨b, 1, none⟩ (.map (some bn))).setCell ⟨b, 2, none⟩ (.int .i64 (Sto.bytes nx : Int))).setCell ⟨b, 3, none⟩ (.int .i64 (Sto.whole nx : Int))) := by
  have hz := hk.size
  have hw := k.kept.size
  have hst : Kept (fun i => i = b) W2 (((W2.setCell ⟨b, 1, none⟩ (.map (some bn))).setCell ⟨b, 2, none⟩ (.int .i64 (Sto.bytes nx : Int))).setCell ⟨b, 3, none⟩ (.int .i64 (Sto.whole nx : Int))) :=
    (((Kept.refl (fun i => i = b) W2).stored (p := ⟨b, 1, none⟩) (Or.inl rfl) _).stored (p := ⟨b, 2, none⟩) (Or.inl rfl) _).stored (p := ⟨b, 3, none⟩) (Or.inl rfl) _
  have hnb := k.away (W2 := W2) k.row.inHeap k.nb
  have hnn := k.away (W2 := W2) k.new.lt k.nn
  have hne : bn ≠ b := fun e => k.new.not_row k.row e.symm
  have hrow := (((k.row.kept hk k.nb).stored 1 (.map (some bn))).stored 2 (.int .i64 (Sto.bytes nx : Int))).stored 3 (.int .i64 (Sto.whole nx : Int))
  have hrow2 : Row (((W2.setCell ⟨b, 1, none⟩ (.map (some bn))).setCell ⟨b, 2, none⟩ (.int .i64 (Sto.bytes nx : Int))).setCell ⟨b, 3, none⟩ (.int .i64 (Sto.whole nx : Int))) b 81 (scells jv bn ⟨j', nx, s.quota, false⟩) := by
    rw [← hbr]
    exact hrow
  have hbl := k.new.lt
  refine ⟨sat_of (m := bn) (jat_kept hj hst (fun i hi e => hnb (e ▸ hi))) (fun i hi => Nat.lt_of_lt_of_le (Grow.lt hi k.lt hz) hst.size) hrow2 ((k.new.kept hk k.nn).kept hst hne) hnb hnn (fun i hi => ?_) (Or.inl hB) (Or.inr ⟨hbn, by have := hst.size; omega⟩), ?_⟩
  · rcases hi with hi | hi
    · rcases k.sub i hi with hi | hi
      · exact Or.inl (hFp i hi)
      · exact Or.inr (by have := hst.size; omega)
    · exact Or.inr (by have := hst.size; omega)
  · refine ((k.kept.mono hFp).trans hk (fun i hi hf => ?_)).trans hst (fun i _ e => e ▸ hB)
    rcases k.sub i hf with hf | hf
    · exact hFp i hf
    · omega

set_option maxRecDepth 100000 in
set_option maxHeartbeats 6400000 in
theorem sto_doing {cv : Value} {cs : List Sto.Ch} (h : SAt AtL SOwn w F dv sv n d s) (hbr : s.broken = false) (hjb : s.j.broken = false) (hg : Good s) (hs : Sound n d N) (hh : Held n d s.j) (hN : N + (2 * hof n + 6) ≤ 100000)
    (hc : Changes w G cv cs) (hG : ∀ k, G k → ¬ F k) (hl : cs.length ≤ 9223372036854775807) :
    Calls Tryz.prog 17 #[sv, cv] w fun e w' => e = .returned (.int .i64 (Sto.doing n d s cs).1) ∧ SAt AtL SOwn w' (Grow F w w') dv sv n (Sto.doing n d s cs).2.1 (Sto.doing n d s cs).2.2 ∧ Kept F w w' := by
  have hsat := h
  obtain ⟨F1, F2, h1, ⟨b, bm, jv, F3, rfl, h⟩, h3, h4, h5⟩ := h
  have HB := sto_behind h.row h.map hbr hg hc hl
  unfold BehPost at HB
  obtain ⟨A, cap, rfl, hcap⟩ := hc.slice
  obtain ⟨nx, hnx⟩ : ∃ nx, nx = Sto.after s.vals cs := ⟨_, rfl⟩
  rw [← hnx] at HB
  by_cases hck : Sto.check s.vals cs s.quota = 0
  · rw [hck] at HB
    have HB := Lib.hid HB
    obtain ⟨hne, h1024, hmay⟩ := Sto.check_ok hck
    obtain ⟨hfi, hnl, hby, hwh⟩ := after_cap hg.few hg.fit h1024 hmay
    have hso := Sto.after_sorted hg.sorted cs
    rw [← hnx] at hfi hnl hby hwh hso
    have hwl := Sto.whole_len nx
    have hdo : Hid (Sto.doing n d s cs = if 64 * hof n < Sto.whole nx ∨ 65536 < Sto.whole nx then (10, d, s)
      else if (Sto.keeps n d s.j cs nx).1 = 0 then (0, (Sto.keeps n d s.j cs nx).2.1, ⟨(Sto.keeps n d s.j cs nx).2.2, nx, s.quota, false⟩) else ((Sto.keeps n d s.j cs nx).1, (Sto.keeps n d s.j cs nx).2.1, ⟨(Sto.keeps n d s.j cs nx).2.2, s.vals, s.quota, true⟩)) := Lib.hid (by
        unfold Sto.doing
        rw [if_pos hck, hnx])
    have hfew := atl_few h1
    have hnS := hs.shape.len
    have hfits := hh.fits
    have hof9 : 64 * hof n ≤ 1000000 := by unfold hof; omega
    have hFp : ∀ k, (F1 k ∨ F3 k) → F k := fun k hk => by
      rcases hk with hk | hk
      · exact h4 k hk
      · exact h5 k (h.inJ k hk).1
    have hJ : JAt AtL JOwn w (fun k => F1 k ∨ F3 k) dv jv n d s.j := ⟨F1, F3, h1, h.jnl, fun k hk hk3 => h3 k hk (h.inJ k hk3).1, fun k hk => Or.inl hk, fun k hk => Or.inr hk⟩
    have hnb : ¬ (F1 b ∨ F3 b) := fun e => by
      rcases e with e | e
      · exact h3 b e h.inB
      · exact (h.inJ b e).2.1 rfl
    have hnm : ¬ (F1 bm ∨ F3 bm) := fun e => by
      rcases e with e | e
      · exact h3 bm e h.inM
      · exact (h.inJ bm e).2.2 rfl
    have hlt : ∀ k, (F1 k ∨ F3 k) → k < w.heap.size := fun k hk => by
      rcases hk with hk | hk
      · exact h1.2 k hk
      · exact h.lt k (h.inJ k hk).1
    have HStart := Lib.hid (fun (w1 : World) (bn : Nat) (hb1 : Below w.heap.size w w1) (hm1 : MapAt w1 bn nx) (hbn : w.heap.size ≤ bn) =>
      (⟨jat_under (jat_under hJ hb1) ((Below.refl w1.heap.size w1).alloc (Nat.le_refl _) (.cells (vcells bn nx) 76)), fun i hi => Nat.lt_of_lt_of_le (hlt i hi) (Nat.le_trans hb1.size (by simp)), (h.row.below hb1 h.row.inHeap).behindNew _, (h.map.below hb1 h.map.lt).below ((Below.refl w1.heap.size w1).alloc (Nat.le_refl _) _) (Nat.lt_of_lt_of_le h.map.lt hb1.size), hm1.below ((Below.refl w1.heap.size w1).alloc (Nat.le_refl _) _) hm1.lt, Row.made w1 _ _,
        hnb, hnm, fun e => by have := hlt _ e; omega, fun e => by have := hlt _ e; have := hb1.size; omega, fun i hi => Or.inl hi, Kept.ofBelow (hb1.alloc hb1.size _) _⟩ : Dn w (fun k => F1 k ∨ F3 k) dv jv n d s b bm bn w1.heap.size nx (w1.alloc (.cells (vcells bn nx) 76)) (fun k => F1 k ∨ F3 k)))
    have HRoom := Lib.hid (fun (p bn : Nat) (W : World) (F5 : Nat → Prop) (k : Dn w (fun k => F1 k ∨ F3 k) dv jv n d s b bm bn p nx W F5) => jnl_room k.jat hnS)
    have HUsed := Lib.hid (fun (p bn : Nat) (W : World) (F5 : Nat → Prop) (k : Dn w (fun k => F1 k ∨ F3 k) dv jv n d s b bm bn p nx W F5) => jnl_used k.jat)
    have HKeep := Lib.hid (fun (p bn : Nat) (W : World) (F5 : Nat → Prop) (k : Dn w (fun k => F1 k ∨ F3 k) dv jv n d s b bm bn p nx W F5) (hle : nx.length ≤ 100000) => sto_keep (cs := cs) (N := N) k.jat k.lt hs hh (by omega) k.row k.nb (hc.kept k.kept (fun i hi hf => hG i hi (hFp i hf))) hne h1024 hmay k.new k.nn hso hfi hle)
    have HFull := Lib.hid (fun (p bn : Nat) (W : World) (F5 : Nat → Prop) (k : Dn w (fun k => F1 k ∨ F3 k) dv jv n d s b bm bn p nx W F5) =>
      (⟨sat_of (F0 := Grow F w W) k.jat k.lt k.row k.old k.nb k.nm (fun i hi => by
          rcases k.sub i hi with hi | hi
          · exact Or.inl (hFp i hi)
          · exact Or.inr hi) (Or.inl (h5 b h.inB)) (Or.inl (h5 bm h.inM)), k.kept.mono hFp⟩ : SAt AtL SOwn W (Grow F w W) dv (.pointer (some ⟨b, 0, none⟩)) n d s ∧ Kept F w W))
    have HinB := Lib.hid (show F b from h5 b h.inB)
    have HinM := Lib.hid (show F bm from h5 bm h.inM)
    have HFp := Lib.hid hFp
    have HBr := Lib.hid hbr
    have eH : IntKind.i64.wrap (((64 * hof n : Nat) : Int) - (s.j.bytes.length : Int) + (s.j.bytes.length : Int)) = ((64 * hof n : Nat) : Int) := by rw [IntWalk.i64_in _ ⟨by omega, by omega⟩]; omega
    have hHb : ((64 * hof n : Nat) : Int) ≤ 1000000 := by omega
    have hH0 : (0 : Int) ≤ ((64 * hof n : Nat) : Int) := by omega
    have hWb : (Sto.whole nx : Int) ≤ 1000000000 := by omega
    have hcond : (64 * hof n < Sto.whole nx ∨ 65536 < Sto.whole nx) ↔ min ((64 * hof n : Nat) : Int) 65536 < (Sto.whole nx : Int) := by omega
    have Hle : Hid (¬ min ((64 * hof n : Nat) : Int) 65536 < (Sto.whole nx : Int) → nx.length ≤ 100000) := Lib.hid (fun hx => by omega)
    rw [hdo.out]
    clear hsat h1 h h3 h4 h5 hbr hjb hg hs hh hN hc hG hl hnx hck hne h1024 hmay hfi hnl hby hwh hso hwl hdo hfew hnS hfits hof9 hFp hJ hnb hnm hlt hcap
    generalize hHH : ((64 * hof n : Nat) : Int) = H at *
    generalize hRR : (H - (s.j.bytes.length : Int)) = R at *
    generalize hUU : (s.j.bytes.length : Int) = U at *
    obtain ⟨WL, hWL⟩ : ∃ WL : Int, WL = (Sto.whole nx : Int) := ⟨_, rfl⟩
    by_cases hfull : 64 * hof n < Sto.whole nx ∨ 65536 < Sto.whole nx
    · have hd : decide (min H 65536 < (Sto.whole nx : Int)) = true := by simpa using hcond.1 hfull
      rw [if_pos hfull]
      clear hcond hfull Hle HKeep
      go_enter Tryz.func17, Tryz.ntmps17
      go_wp2_with (go_at_call 38; refine HB.out.mono ?_; rintro e w1 ⟨x0, y0, z0, rfl, hb1, hz1⟩; obtain ⟨bn, ⟨rfl, rfl, rfl⟩, hm1, hbn⟩ := hz1 rfl; have Hm1 := Lib.hid hm1; have Hbn := Lib.hid hbn; have Hb1 := Lib.hid hb1; clear hb1 hz1 hm1 hbn)
      have h2 : Dn w (fun k => F1 k ∨ F3 k) dv jv n d s b bm bn w1.heap.size nx (w1.alloc (.cells #[.map (some bn), .int .i64 (Sto.bytes nx : Int), .int .i64 (Sto.whole nx : Int)] 76)).drew (fun k => F1 k ∨ F3 k) := (HStart.out w1 bn Hb1.out Hm1.out Hbn.out).below (Below.drew (Below.refl _ _))
      have h2 := Lib.hid h2
      generalize (w1.alloc (.cells #[.map (some bn), .int .i64 (Sto.bytes nx : Int), .int .i64 (Sto.whole nx : Int)] 76)) = w2 at *
      generalize w1.heap.size = p at *
      refine wp_region_held_drew (S := (fun w' : World => Row w' b 81 (scells jv bm s) ∧ Row w' p 76 (vcells bn nx))) (by kernel_rfl) (⟨h2.out.row, h2.out.box⟩) (fun hHeld => ?_)
      refine wpAnyH_take (i := 0) (v := ?_) rfl (by kernel_rfl) (by kernel_rfl) (by kernel_rfl) (fun _ _ _ h => h) (Or.inl ⟨by rfl, (by intro w hSw; go_simp; try with_reducible rfl)⟩) (by assumption) ?_
      simp only [Act.put, List.getElem_toArray, List.getElem_cons_zero, List.getElem_cons_succ, List.setIfInBounds_toArray, List.set_cons_zero, List.set_cons_succ]
      refine wpAnyH_take (i := 1) (v := ?_) rfl (by kernel_rfl) (by kernel_rfl) (by kernel_rfl) (fun _ _ _ h => h) (Or.inl ⟨by rfl, (by intro w hSw; have c2 : w.cell? ⟨p, 2, none⟩ = some (.int .i64 (Sto.whole nx : Int)) := hSw.2.at 2; go_simp; try with_reducible rfl)⟩) (by assumption) ?_
      simp only [Act.put, List.getElem_toArray, List.getElem_cons_zero, List.getElem_cons_succ, List.setIfInBounds_toArray, List.set_cons_zero, List.set_cons_succ]
      refine wpAnyH_take (i := 2) (v := ?_) rfl (by kernel_rfl) (by kernel_rfl) (by kernel_rfl) (fun _ _ _ h => h) (Or.inl ⟨by rfl, (by intro w hSw; go_simp; try with_reducible rfl)⟩) (by assumption) ?_
      simp only [Act.put, List.getElem_toArray, List.getElem_cons_zero, List.getElem_cons_succ, List.setIfInBounds_toArray, List.set_cons_zero, List.set_cons_succ]
      refine wpAnyH_take (i := 3) (v := ?_) rfl (by kernel_rfl) (by kernel_rfl) (by kernel_rfl) (fun _ _ _ h => h) (Or.inl ⟨by rfl, (by intro w hSw; go_simp; try with_reducible rfl)⟩) (by assumption) ?_
      simp only [Act.put, List.getElem_toArray, List.getElem_cons_zero, List.getElem_cons_succ, List.setIfInBounds_toArray, List.set_cons_zero, List.set_cons_succ]
      refine wpAnyH_take (i := 4) (v := ?_) rfl (by kernel_rfl) (by kernel_rfl) (by kernel_rfl) (fun _ _ _ h => h) (Or.inl ⟨by rfl, (by intro w hSw; go_simp; try with_reducible rfl)⟩) (by assumption) ?_
      simp only [Act.put, List.getElem_toArray, List.getElem_cons_zero, List.getElem_cons_succ, List.setIfInBounds_toArray, List.set_cons_zero, List.set_cons_succ]
      refine wpAnyH_take (i := 5) (v := ?_) rfl (by kernel_rfl) (by kernel_rfl) (by kernel_rfl) (fun _ _ _ h => h) (Or.inl ⟨by rfl, (by intro w hSw; have c0 : w.cell? ⟨b, 0, none⟩ = some jv := hSw.1.at 0; go_simp; try with_reducible rfl)⟩) (by assumption) ?_
      simp only [Act.put, List.getElem_toArray, List.getElem_cons_zero, List.getElem_cons_succ, List.setIfInBounds_toArray, List.set_cons_zero, List.set_cons_succ]
      refine wpAnyH_take (i := 7) (v := ?_) rfl (by kernel_rfl) (by kernel_rfl) (by kernel_rfl) (fun _ _ _ h => h) (Or.inl ⟨by rfl, (by intro w hSw; go_simp; try with_reducible rfl)⟩) (by assumption) ?_
      simp only [Act.put, List.getElem_toArray, List.getElem_cons_zero, List.getElem_cons_succ, List.setIfInBounds_toArray, List.set_cons_zero, List.set_cons_succ]
      refine wpAnyH_take (i := 8) (v := ?_) rfl (by kernel_rfl) (by kernel_rfl) (by kernel_rfl) (fun _ _ _ h => h) (Or.inl ⟨by rfl, (by intro w hSw; go_simp; try with_reducible rfl)⟩) (by assumption) ?_
      simp only [Act.put, List.getElem_toArray, List.getElem_cons_zero, List.getElem_cons_succ, List.setIfInBounds_toArray, List.set_cons_zero, List.set_cons_succ]
      refine wpAnyH_take (i := 9) (v := ?_) rfl (by kernel_rfl) (by kernel_rfl) (by kernel_rfl) (fun _ _ _ h => h) (Or.inl ⟨by rfl, (by intro w hSw; go_simp; try with_reducible rfl)⟩) (by assumption) ?_
      simp only [Act.put, List.getElem_toArray, List.getElem_cons_zero, List.getElem_cons_succ, List.setIfInBounds_toArray, List.set_cons_zero, List.set_cons_succ]
      refine wpAnyH_take (i := 10) (v := ?_) rfl (by kernel_rfl) (by kernel_rfl) (by kernel_rfl) (fun _ _ _ h => h) (Or.inl ⟨by rfl, (by intro w hSw; have c0 : w.cell? ⟨b, 0, none⟩ = some jv := hSw.1.at 0; go_simp; try with_reducible rfl)⟩) (by assumption) ?_
      simp only [Act.put, List.getElem_toArray, List.getElem_cons_zero, List.getElem_cons_succ, List.setIfInBounds_toArray, List.set_cons_zero, List.set_cons_succ]
      refine wpAnyH_ready (rs := [6]) (by kernel_rfl) (by simp) ?_
      refine AllReadyH.cons rfl (fun K hK => ?_) AllReadyH.nil
      go_simp
      go_at_call 41
      refine (HRoom.out _ _ _ _ h2.out).mono ?_
      rintro e w6 ⟨rfl, hj6, hk6⟩
      have h6 := Lib.hid (h2.out.call hj6 hk6)
      refine hK.out _ _ ⟨h6.out.row, h6.out.box⟩ (fun hHeld => ?_)
      clear hj6 hk6
      clear hK K
      refine wpAnyH_ready (rs := [11]) (by kernel_rfl) (by simp) ?_
      refine AllReadyH.cons rfl (fun K hK => ?_) AllReadyH.nil
      go_simp
      go_at_call 42
      refine (HUsed.out _ _ _ _ h6.out).mono ?_
      rintro e w11 ⟨rfl, hj11, hk11⟩
      have h11 := Lib.hid (h6.out.call hj11 hk11)
      refine hK.out _ _ ⟨h11.out.row, h11.out.box⟩ (fun hHeld => ?_)
      clear hj11 hk11
      clear hK K
      refine wpAnyH_take (i := 12) (v := ?_) rfl (by kernel_rfl) (by kernel_rfl) (by kernel_rfl) (fun _ _ _ h => h) (Or.inl ⟨by rfl, (by intro w hSw; go_simp; try with_reducible rfl)⟩) (by assumption) ?_
      simp only [Act.put, List.getElem_toArray, List.getElem_cons_zero, List.getElem_cons_succ, List.setIfInBounds_toArray, List.set_cons_zero, List.set_cons_succ]
      refine wpAnyH_take (i := 13) (v := ?_) rfl (by kernel_rfl) (by kernel_rfl) (by kernel_rfl) (fun _ _ _ h => h) (Or.inl ⟨by rfl, (by intro w hSw; go_simp; try with_reducible rfl)⟩) (by assumption) ?_
      simp only [Act.put, List.getElem_toArray, List.getElem_cons_zero, List.getElem_cons_succ, List.setIfInBounds_toArray, List.set_cons_zero, List.set_cons_succ]
      refine wpAnyH_take (i := 14) (v := ?_) rfl (by kernel_rfl) (by kernel_rfl) (by kernel_rfl) (fun _ _ _ h => h) (Or.inl ⟨by rfl, (by intro w hSw; go_simp; try with_reducible rfl)⟩) (by assumption) ?_
      simp only [Act.put, List.getElem_toArray, List.getElem_cons_zero, List.getElem_cons_succ, List.setIfInBounds_toArray, List.set_cons_zero, List.set_cons_succ]
      refine wpAnyH_done (by kernel_rfl) ?_ _
      have Hend := Lib.hid (HFull.out _ _ _ _ h11.out)
      clear hHeld
      go_wp2_with fail
      go_ret
      exact ⟨rfl, Hend.out⟩
    · have hd : decide (min H 65536 < (Sto.whole nx : Int)) = false := by simpa using fun e => hfull (hcond.2 e)
      have hle := Hle.out (by simpa using hd)
      have HKeep := Lib.hid (fun (p bn : Nat) (W : World) (F5 : Nat → Prop) (k : Dn w (fun k => F1 k ∨ F3 k) dv jv n d s b bm bn p nx W F5) => HKeep.out p bn W F5 k hle)
      rw [if_neg hfull]
      clear hcond hfull Hle hle
      generalize Sto.keeps n d s.j cs nx = K at *
      obtain ⟨x, d', j'⟩ := K
      by_cases hx : x = 0
      · subst hx
        rw [if_pos rfl]
        go_enter Tryz.func17, Tryz.ntmps17
        go_wp2_with (go_at_call 38; refine HB.out.mono ?_; rintro e w1 ⟨x0, y0, z0, rfl, hb1, hz1⟩; obtain ⟨bn, ⟨rfl, rfl, rfl⟩, hm1, hbn⟩ := hz1 rfl; have Hm1 := Lib.hid hm1; have Hbn := Lib.hid hbn; have Hb1 := Lib.hid hb1; clear hb1 hz1 hm1 hbn)
        have h2 : Dn w (fun k => F1 k ∨ F3 k) dv jv n d s b bm bn w1.heap.size nx (w1.alloc (.cells #[.map (some bn), .int .i64 (Sto.bytes nx : Int), .int .i64 (Sto.whole nx : Int)] 76)).drew (fun k => F1 k ∨ F3 k) := (HStart.out w1 bn Hb1.out Hm1.out Hbn.out).below (Below.drew (Below.refl _ _))
        have h2 := Lib.hid h2
        generalize (w1.alloc (.cells #[.map (some bn), .int .i64 (Sto.bytes nx : Int), .int .i64 (Sto.whole nx : Int)] 76)) = w2 at *
        generalize w1.heap.size = p at *
        refine wp_region_held_drew (S := (fun w' : World => Row w' b 81 (scells jv bm s) ∧ Row w' p 76 (vcells bn nx))) (by kernel_rfl) (⟨h2.out.row, h2.out.box⟩) (fun hHeld => ?_)
        refine wpAnyH_take (i := 0) (v := ?_) rfl (by kernel_rfl) (by kernel_rfl) (by kernel_rfl) (fun _ _ _ h => h) (Or.inl ⟨by rfl, (by intro w hSw; go_simp; try with_reducible rfl)⟩) (by assumption) ?_
        simp only [Act.put, List.getElem_toArray, List.getElem_cons_zero, List.getElem_cons_succ, List.setIfInBounds_toArray, List.set_cons_zero, List.set_cons_succ]
        refine wpAnyH_take (i := 1) (v := ?_) rfl (by kernel_rfl) (by kernel_rfl) (by kernel_rfl) (fun _ _ _ h => h) (Or.inl ⟨by rfl, (by intro w hSw; have c2 : w.cell? ⟨p, 2, none⟩ = some (.int .i64 (Sto.whole nx : Int)) := hSw.2.at 2; go_simp; try with_reducible rfl)⟩) (by assumption) ?_
        simp only [Act.put, List.getElem_toArray, List.getElem_cons_zero, List.getElem_cons_succ, List.setIfInBounds_toArray, List.set_cons_zero, List.set_cons_succ]
        refine wpAnyH_take (i := 2) (v := ?_) rfl (by kernel_rfl) (by kernel_rfl) (by kernel_rfl) (fun _ _ _ h => h) (Or.inl ⟨by rfl, (by intro w hSw; go_simp; try with_reducible rfl)⟩) (by assumption) ?_
        simp only [Act.put, List.getElem_toArray, List.getElem_cons_zero, List.getElem_cons_succ, List.setIfInBounds_toArray, List.set_cons_zero, List.set_cons_succ]
        refine wpAnyH_take (i := 3) (v := ?_) rfl (by kernel_rfl) (by kernel_rfl) (by kernel_rfl) (fun _ _ _ h => h) (Or.inl ⟨by rfl, (by intro w hSw; go_simp; try with_reducible rfl)⟩) (by assumption) ?_
        simp only [Act.put, List.getElem_toArray, List.getElem_cons_zero, List.getElem_cons_succ, List.setIfInBounds_toArray, List.set_cons_zero, List.set_cons_succ]
        refine wpAnyH_take (i := 4) (v := ?_) rfl (by kernel_rfl) (by kernel_rfl) (by kernel_rfl) (fun _ _ _ h => h) (Or.inl ⟨by rfl, (by intro w hSw; go_simp; try with_reducible rfl)⟩) (by assumption) ?_
        simp only [Act.put, List.getElem_toArray, List.getElem_cons_zero, List.getElem_cons_succ, List.setIfInBounds_toArray, List.set_cons_zero, List.set_cons_succ]
        refine wpAnyH_take (i := 5) (v := ?_) rfl (by kernel_rfl) (by kernel_rfl) (by kernel_rfl) (fun _ _ _ h => h) (Or.inl ⟨by rfl, (by intro w hSw; have c0 : w.cell? ⟨b, 0, none⟩ = some jv := hSw.1.at 0; go_simp; try with_reducible rfl)⟩) (by assumption) ?_
        simp only [Act.put, List.getElem_toArray, List.getElem_cons_zero, List.getElem_cons_succ, List.setIfInBounds_toArray, List.set_cons_zero, List.set_cons_succ]
        refine wpAnyH_take (i := 7) (v := ?_) rfl (by kernel_rfl) (by kernel_rfl) (by kernel_rfl) (fun _ _ _ h => h) (Or.inl ⟨by rfl, (by intro w hSw; go_simp; try with_reducible rfl)⟩) (by assumption) ?_
        simp only [Act.put, List.getElem_toArray, List.getElem_cons_zero, List.getElem_cons_succ, List.setIfInBounds_toArray, List.set_cons_zero, List.set_cons_succ]
        refine wpAnyH_take (i := 8) (v := ?_) rfl (by kernel_rfl) (by kernel_rfl) (by kernel_rfl) (fun _ _ _ h => h) (Or.inl ⟨by rfl, (by intro w hSw; go_simp; try with_reducible rfl)⟩) (by assumption) ?_
        simp only [Act.put, List.getElem_toArray, List.getElem_cons_zero, List.getElem_cons_succ, List.setIfInBounds_toArray, List.set_cons_zero, List.set_cons_succ]
        refine wpAnyH_take (i := 9) (v := ?_) rfl (by kernel_rfl) (by kernel_rfl) (by kernel_rfl) (fun _ _ _ h => h) (Or.inl ⟨by rfl, (by intro w hSw; go_simp; try with_reducible rfl)⟩) (by assumption) ?_
        simp only [Act.put, List.getElem_toArray, List.getElem_cons_zero, List.getElem_cons_succ, List.setIfInBounds_toArray, List.set_cons_zero, List.set_cons_succ]
        refine wpAnyH_take (i := 10) (v := ?_) rfl (by kernel_rfl) (by kernel_rfl) (by kernel_rfl) (fun _ _ _ h => h) (Or.inl ⟨by rfl, (by intro w hSw; have c0 : w.cell? ⟨b, 0, none⟩ = some jv := hSw.1.at 0; go_simp; try with_reducible rfl)⟩) (by assumption) ?_
        simp only [Act.put, List.getElem_toArray, List.getElem_cons_zero, List.getElem_cons_succ, List.setIfInBounds_toArray, List.set_cons_zero, List.set_cons_succ]
        refine wpAnyH_ready (rs := [6]) (by kernel_rfl) (by simp) ?_
        refine AllReadyH.cons rfl (fun K hK => ?_) AllReadyH.nil
        go_simp
        go_at_call 41
        refine (HRoom.out _ _ _ _ h2.out).mono ?_
        rintro e w6 ⟨rfl, hj6, hk6⟩
        have h6 := Lib.hid (h2.out.call hj6 hk6)
        refine hK.out _ _ ⟨h6.out.row, h6.out.box⟩ (fun hHeld => ?_)
        clear hj6 hk6
        clear hK K
        refine wpAnyH_ready (rs := [11]) (by kernel_rfl) (by simp) ?_
        refine AllReadyH.cons rfl (fun K hK => ?_) AllReadyH.nil
        go_simp
        go_at_call 42
        refine (HUsed.out _ _ _ _ h6.out).mono ?_
        rintro e w11 ⟨rfl, hj11, hk11⟩
        have h11 := Lib.hid (h6.out.call hj11 hk11)
        refine hK.out _ _ ⟨h11.out.row, h11.out.box⟩ (fun hHeld => ?_)
        clear hj11 hk11
        clear hK K
        refine wpAnyH_take (i := 12) (v := ?_) rfl (by kernel_rfl) (by kernel_rfl) (by kernel_rfl) (fun _ _ _ h => h) (Or.inl ⟨by rfl, (by intro w hSw; go_simp; try with_reducible rfl)⟩) (by assumption) ?_
        simp only [Act.put, List.getElem_toArray, List.getElem_cons_zero, List.getElem_cons_succ, List.setIfInBounds_toArray, List.set_cons_zero, List.set_cons_succ]
        refine wpAnyH_take (i := 13) (v := ?_) rfl (by kernel_rfl) (by kernel_rfl) (by kernel_rfl) (fun _ _ _ h => h) (Or.inl ⟨by rfl, (by intro w hSw; go_simp; try with_reducible rfl)⟩) (by assumption) ?_
        simp only [Act.put, List.getElem_toArray, List.getElem_cons_zero, List.getElem_cons_succ, List.setIfInBounds_toArray, List.set_cons_zero, List.set_cons_succ]
        refine wpAnyH_take (i := 14) (v := ?_) rfl (by kernel_rfl) (by kernel_rfl) (by kernel_rfl) (fun _ _ _ h => h) (Or.inl ⟨by rfl, (by intro w hSw; go_simp; try with_reducible rfl)⟩) (by assumption) ?_
        simp only [Act.put, List.getElem_toArray, List.getElem_cons_zero, List.getElem_cons_succ, List.setIfInBounds_toArray, List.set_cons_zero, List.set_cons_succ]
        refine wpAnyH_done (by kernel_rfl) ?_ _
        clear hHeld
        have q0 : w11.cell? ⟨p, 0, none⟩ = some (.map (some bn)) := h11.out.box.at 0
        have q1 : w11.cell? ⟨p, 1, none⟩ = some (.int .i64 (Sto.bytes nx : Int)) := h11.out.box.at 1
        have q2 : w11.cell? ⟨p, 2, none⟩ = some (.int .i64 (Sto.whole nx : Int)) := h11.out.box.at 2
        unfold vA vcells at HKeep
        go_wp2_with (go_at_call 43; refine (HKeep.out _ _ _ _ h11.out).mono ?_; rintro e w12 ⟨rfl, hj12, hk12⟩
                     have hr12 := h11.out.row.kept hk12 h11.out.nb
                     have hx12 := h11.out.box.kept hk12 h11.out.np
                     have y0 : w12.cell? ⟨p, 0, none⟩ = some (.map (some bn)) := hx12.at 0
                     have y1 : w12.cell? ⟨p, 1, none⟩ = some (.int .i64 (Sto.bytes nx : Int)) := hx12.at 1
                     have y2 : w12.cell? ⟨p, 2, none⟩ = some (.int .i64 (Sto.whole nx : Int)) := hx12.at 2
                     have z1 : w12.cell? ⟨b, 1, none⟩ = some (.map (some bm)) := hr12.at 1
                     have z2 : w12.cell? ⟨b, 2, none⟩ = some (.int .i64 (Sto.bytes s.vals : Int)) := hr12.at 2
                     have z3 : w12.cell? ⟨b, 3, none⟩ = some (.int .i64 (Sto.whole s.vals : Int)) := hr12.at 3
                     have f1 := hr12.free 1
                     have f2 := hr12.free 2
                     have f3 := hr12.free 3
                     have Hend := Lib.hid (h11.out.good (F0 := F) HBr.out hj12 hk12 HFp.out HinB.out Hbn.out)
                     clear hr12 hx12 hj12 hk12 q0 q1 q2)
        go_ret
        exact ⟨rfl, Hend.out⟩
      · rw [if_neg hx]
        have hxb : (x != 0) = true := by simpa using hx
        clear hx
        go_enter Tryz.func17, Tryz.ntmps17
        go_wp2_with (go_at_call 38; refine HB.out.mono ?_; rintro e w1 ⟨x0, y0, z0, rfl, hb1, hz1⟩; obtain ⟨bn, ⟨rfl, rfl, rfl⟩, hm1, hbn⟩ := hz1 rfl; have Hm1 := Lib.hid hm1; have Hbn := Lib.hid hbn; have Hb1 := Lib.hid hb1; clear hb1 hz1 hm1 hbn)
        have h2 : Dn w (fun k => F1 k ∨ F3 k) dv jv n d s b bm bn w1.heap.size nx (w1.alloc (.cells #[.map (some bn), .int .i64 (Sto.bytes nx : Int), .int .i64 (Sto.whole nx : Int)] 76)).drew (fun k => F1 k ∨ F3 k) := (HStart.out w1 bn Hb1.out Hm1.out Hbn.out).below (Below.drew (Below.refl _ _))
        have h2 := Lib.hid h2
        generalize (w1.alloc (.cells #[.map (some bn), .int .i64 (Sto.bytes nx : Int), .int .i64 (Sto.whole nx : Int)] 76)) = w2 at *
        generalize w1.heap.size = p at *
        refine wp_region_held_drew (S := (fun w' : World => Row w' b 81 (scells jv bm s) ∧ Row w' p 76 (vcells bn nx))) (by kernel_rfl) (⟨h2.out.row, h2.out.box⟩) (fun hHeld => ?_)
        refine wpAnyH_take (i := 0) (v := ?_) rfl (by kernel_rfl) (by kernel_rfl) (by kernel_rfl) (fun _ _ _ h => h) (Or.inl ⟨by rfl, (by intro w hSw; go_simp; try with_reducible rfl)⟩) (by assumption) ?_
        simp only [Act.put, List.getElem_toArray, List.getElem_cons_zero, List.getElem_cons_succ, List.setIfInBounds_toArray, List.set_cons_zero, List.set_cons_succ]
        refine wpAnyH_take (i := 1) (v := ?_) rfl (by kernel_rfl) (by kernel_rfl) (by kernel_rfl) (fun _ _ _ h => h) (Or.inl ⟨by rfl, (by intro w hSw; have c2 : w.cell? ⟨p, 2, none⟩ = some (.int .i64 (Sto.whole nx : Int)) := hSw.2.at 2; go_simp; try with_reducible rfl)⟩) (by assumption) ?_
        simp only [Act.put, List.getElem_toArray, List.getElem_cons_zero, List.getElem_cons_succ, List.setIfInBounds_toArray, List.set_cons_zero, List.set_cons_succ]
        refine wpAnyH_take (i := 2) (v := ?_) rfl (by kernel_rfl) (by kernel_rfl) (by kernel_rfl) (fun _ _ _ h => h) (Or.inl ⟨by rfl, (by intro w hSw; go_simp; try with_reducible rfl)⟩) (by assumption) ?_
        simp only [Act.put, List.getElem_toArray, List.getElem_cons_zero, List.getElem_cons_succ, List.setIfInBounds_toArray, List.set_cons_zero, List.set_cons_succ]
        refine wpAnyH_take (i := 3) (v := ?_) rfl (by kernel_rfl) (by kernel_rfl) (by kernel_rfl) (fun _ _ _ h => h) (Or.inl ⟨by rfl, (by intro w hSw; go_simp; try with_reducible rfl)⟩) (by assumption) ?_
        simp only [Act.put, List.getElem_toArray, List.getElem_cons_zero, List.getElem_cons_succ, List.setIfInBounds_toArray, List.set_cons_zero, List.set_cons_succ]
        refine wpAnyH_take (i := 4) (v := ?_) rfl (by kernel_rfl) (by kernel_rfl) (by kernel_rfl) (fun _ _ _ h => h) (Or.inl ⟨by rfl, (by intro w hSw; go_simp; try with_reducible rfl)⟩) (by assumption) ?_
        simp only [Act.put, List.getElem_toArray, List.getElem_cons_zero, List.getElem_cons_succ, List.setIfInBounds_toArray, List.set_cons_zero, List.set_cons_succ]
        refine wpAnyH_take (i := 5) (v := ?_) rfl (by kernel_rfl) (by kernel_rfl) (by kernel_rfl) (fun _ _ _ h => h) (Or.inl ⟨by rfl, (by intro w hSw; have c0 : w.cell? ⟨b, 0, none⟩ = some jv := hSw.1.at 0; go_simp; try with_reducible rfl)⟩) (by assumption) ?_
        simp only [Act.put, List.getElem_toArray, List.getElem_cons_zero, List.getElem_cons_succ, List.setIfInBounds_toArray, List.set_cons_zero, List.set_cons_succ]
        refine wpAnyH_take (i := 7) (v := ?_) rfl (by kernel_rfl) (by kernel_rfl) (by kernel_rfl) (fun _ _ _ h => h) (Or.inl ⟨by rfl, (by intro w hSw; go_simp; try with_reducible rfl)⟩) (by assumption) ?_
        simp only [Act.put, List.getElem_toArray, List.getElem_cons_zero, List.getElem_cons_succ, List.setIfInBounds_toArray, List.set_cons_zero, List.set_cons_succ]
        refine wpAnyH_take (i := 8) (v := ?_) rfl (by kernel_rfl) (by kernel_rfl) (by kernel_rfl) (fun _ _ _ h => h) (Or.inl ⟨by rfl, (by intro w hSw; go_simp; try with_reducible rfl)⟩) (by assumption) ?_
        simp only [Act.put, List.getElem_toArray, List.getElem_cons_zero, List.getElem_cons_succ, List.setIfInBounds_toArray, List.set_cons_zero, List.set_cons_succ]
        refine wpAnyH_take (i := 9) (v := ?_) rfl (by kernel_rfl) (by kernel_rfl) (by kernel_rfl) (fun _ _ _ h => h) (Or.inl ⟨by rfl, (by intro w hSw; go_simp; try with_reducible rfl)⟩) (by assumption) ?_
        simp only [Act.put, List.getElem_toArray, List.getElem_cons_zero, List.getElem_cons_succ, List.setIfInBounds_toArray, List.set_cons_zero, List.set_cons_succ]
        refine wpAnyH_take (i := 10) (v := ?_) rfl (by kernel_rfl) (by kernel_rfl) (by kernel_rfl) (fun _ _ _ h => h) (Or.inl ⟨by rfl, (by intro w hSw; have c0 : w.cell? ⟨b, 0, none⟩ = some jv := hSw.1.at 0; go_simp; try with_reducible rfl)⟩) (by assumption) ?_
        simp only [Act.put, List.getElem_toArray, List.getElem_cons_zero, List.getElem_cons_succ, List.setIfInBounds_toArray, List.set_cons_zero, List.set_cons_succ]
        refine wpAnyH_ready (rs := [6]) (by kernel_rfl) (by simp) ?_
        refine AllReadyH.cons rfl (fun K hK => ?_) AllReadyH.nil
        go_simp
        go_at_call 41
        refine (HRoom.out _ _ _ _ h2.out).mono ?_
        rintro e w6 ⟨rfl, hj6, hk6⟩
        have h6 := Lib.hid (h2.out.call hj6 hk6)
        refine hK.out _ _ ⟨h6.out.row, h6.out.box⟩ (fun hHeld => ?_)
        clear hj6 hk6
        clear hK K
        refine wpAnyH_ready (rs := [11]) (by kernel_rfl) (by simp) ?_
        refine AllReadyH.cons rfl (fun K hK => ?_) AllReadyH.nil
        go_simp
        go_at_call 42
        refine (HUsed.out _ _ _ _ h6.out).mono ?_
        rintro e w11 ⟨rfl, hj11, hk11⟩
        have h11 := Lib.hid (h6.out.call hj11 hk11)
        refine hK.out _ _ ⟨h11.out.row, h11.out.box⟩ (fun hHeld => ?_)
        clear hj11 hk11
        clear hK K
        refine wpAnyH_take (i := 12) (v := ?_) rfl (by kernel_rfl) (by kernel_rfl) (by kernel_rfl) (fun _ _ _ h => h) (Or.inl ⟨by rfl, (by intro w hSw; go_simp; try with_reducible rfl)⟩) (by assumption) ?_
        simp only [Act.put, List.getElem_toArray, List.getElem_cons_zero, List.getElem_cons_succ, List.setIfInBounds_toArray, List.set_cons_zero, List.set_cons_succ]
        refine wpAnyH_take (i := 13) (v := ?_) rfl (by kernel_rfl) (by kernel_rfl) (by kernel_rfl) (fun _ _ _ h => h) (Or.inl ⟨by rfl, (by intro w hSw; go_simp; try with_reducible rfl)⟩) (by assumption) ?_
        simp only [Act.put, List.getElem_toArray, List.getElem_cons_zero, List.getElem_cons_succ, List.setIfInBounds_toArray, List.set_cons_zero, List.set_cons_succ]
        refine wpAnyH_take (i := 14) (v := ?_) rfl (by kernel_rfl) (by kernel_rfl) (by kernel_rfl) (fun _ _ _ h => h) (Or.inl ⟨by rfl, (by intro w hSw; go_simp; try with_reducible rfl)⟩) (by assumption) ?_
        simp only [Act.put, List.getElem_toArray, List.getElem_cons_zero, List.getElem_cons_succ, List.setIfInBounds_toArray, List.set_cons_zero, List.set_cons_succ]
        refine wpAnyH_done (by kernel_rfl) ?_ _
        clear hHeld
        have q0 : w11.cell? ⟨p, 0, none⟩ = some (.map (some bn)) := h11.out.box.at 0
        have q1 : w11.cell? ⟨p, 1, none⟩ = some (.int .i64 (Sto.bytes nx : Int)) := h11.out.box.at 1
        have q2 : w11.cell? ⟨p, 2, none⟩ = some (.int .i64 (Sto.whole nx : Int)) := h11.out.box.at 2
        unfold vA vcells at HKeep
        go_wp2_with (go_at_call 43; refine (HKeep.out _ _ _ _ h11.out).mono ?_; rintro e w12 ⟨rfl, hj12, hk12⟩
                     have hr12 := h11.out.row.kept hk12 h11.out.nb
                     have z5 : w12.cell? ⟨b, 5, none⟩ = some (.bool s.broken) := hr12.at 5
                     have f5 := hr12.free 5
                     have Hend := Lib.hid (h11.out.bad (F0 := F) hj12 hk12 HFp.out HinB.out HinM.out)
                     clear hr12 hj12 hk12 q0 q1 q2)
        go_ret
        exact ⟨rfl, Hend.out⟩
  · have hdo : Sto.doing n d s cs = (Sto.check s.vals cs s.quota, d, s) := Sto.doing_bad hck
    rw [hdo]
    have hckb : (Sto.check s.vals cs s.quota != 0) = true := by simpa using hck
    have fin := Lib.hid (fun w' => sat_below (w' := w') hsat)
    generalize Sto.check s.vals cs s.quota = ck at *
    have HB := Lib.hid HB
    clear hsat h1 h h3 h4 h5 hbr hjb hg hs hh hN hc hG hl hnx hck hcap hdo
    go_enter Tryz.func17, Tryz.ntmps17
    go_wp2_with (go_at_call 38; refine HB.out.mono ?_; rintro e w1 ⟨x0, y0, z0, rfl, hb1, -⟩; have Hb1 := Lib.hid hb1; clear hb1)
    go_ret
    exact ⟨rfl, fin.out _ (Hb1.out.alloc Hb1.out.size _)⟩

set_option maxRecDepth 100000 in
theorem sto_none_doing (w : World) (cv : Value) : Calls Tryz.prog 17 #[.pointer none, cv] w fun e w' => e = .returned (.int .i64 1) ∧ Below w.heap.size w w' := by
  go_enter Tryz.func17, Tryz.ntmps17
  go_wp2_with (go_at_call 38; refine (sto_behind_none _ _).mono ?_; rintro e w1 ⟨rfl, hb1⟩; have HB1 := Lib.hid hb1; clear hb1)
  go_ret
  exact ⟨rfl, HB1.out.alloc HB1.out.size _⟩
end
end Go.Proofs.YtbfjageaheijbaaGreat
