/- The landed journal: Append, Rewrite. -/
import Derived.Test.YtbfjageaheijbaaGreatCom34
import Derived.Test.YtbfjageaheijbaaGreatCom28
import Derived.Test.YtbfjageaheijbaaGreatCom30
import Derived.StillTailTactics
import Derived.WalkMore
set_option linter.unusedSimpArgs false
set_option linter.unusedVariables false
namespace Go.Proofs.YtbfjageaheijbaaGreat
open Go.RowKit Dsk Jnl

set_option maxRecDepth 100000 in
theorem jat_mono {w : World} {F G : Nat → Prop} {dv jv : Value} {n : Nat} {d : D} {j : J} (h : JAt AtL JOwn w F dv jv n d j) (hG : ∀ i, F i → G i) : JAt AtL JOwn w G dv jv n d j := by
  obtain ⟨F1, F2, h1, h2, h3, h4, h5⟩ := h
  exact ⟨F1, F2, h1, h2, h3, fun k hk => hG k (h4 k hk), fun k hk => hG k (h5 k hk)⟩

set_option maxRecDepth 100000 in
theorem atl_few {w : World} {F : Nat → Prop} {dv : Value} {d : D} (h : AtL w F dv d) : d.S.length ≤ 4096 := by
  obtain ⟨⟨b, bm, sv, N, M, pv, rfl, h0⟩, -⟩ := h
  exact h0.few

set_option maxRecDepth 100000 in
/-- Two ways of saying what Append answers. -/
theorem append_keptOf {n : Nat} {d : D} {j : J} {a : List (List UInt8)} (hb : j.broken = false) (hq : j.seq ≠ 9223372036854775807) (ha : a ≠ []) : Jnl.append n d j a = keptOf n d j j.half j.bytes (Frm.all a) := by
  unfold Jnl.append keptOf
  rw [if_neg (by rw [hb]; decide), if_neg hq]
  simp only [if_neg ha]

set_option maxRecDepth 100000 in
theorem rewrite_keptOf {n : Nat} {d : D} {j : J} {a : List (List UInt8)} (hb : j.broken = false) (hq : j.seq ≠ 9223372036854775807) : Jnl.rewrite n d j a = keptOf n d j (1 - j.half) [] (Frm.all a) := by
  unfold Jnl.rewrite keptOf
  rw [if_neg (by rw [hb]; decide), if_neg hq]
  simp only [List.length_nil, Nat.zero_add]

set_option maxRecDepth 100000 in
theorem frm_all_pos {a : List (List UInt8)} (h : a ≠ []) : 0 < (Frm.all a).length := by
  cases a with
  | nil => exact absurd rfl h
  | cons t l =>
    rw [Frm.all_cons, List.length_append]
    have := Frm.one_pos t
    omega

section
variable {w : World} {F G : Nat → Prop} {dv jv lv : Value} {n : Nat} {d : D} {j : J} {N : Nat} {a : List (List UInt8)}

set_option maxRecDepth 100000 in
/-- What keep is asked by Append, in whatever world behind. -/
theorem keep_in (h : JAt AtL JOwn w F dv jv n d j) (hs : Sound n d N) (hN : N + hof n + 3 ≤ 100000) (hbr : j.broken = false) (hq : j.seq ≠ 9223372036854775807) (hl : Cells w G lv (texts a)) (ha : a.length ≤ 100000) (hat : ∀ t ∈ a, t.length ≤ 16777216) :
    ∃ b tv, jv = .pointer (some ⟨b, 0, none⟩) ∧ Row w b 106 (jcells dv j.seq j.half j.bytes.length tv j.broken) ∧ j.half ≤ 1 ∧ b < w.heap.size ∧
      (∀ W, Below w.heap.size w W → 0 < (Frm.all a).length → Calls Tryz.prog 55 #[.pointer (some ⟨b, 0, none⟩), .agg #[.int .i64 (j.seq : Int), .int .i64 (j.half : Int), .int .i64 (j.bytes.length : Int)], tv, lv] W fun e w' =>
        e = .returned (.int .i64 (keptOf n d j j.half j.bytes (Frm.all a)).1) ∧ JAt AtL JOwn w' (Grow F w w') dv (.pointer (some ⟨b, 0, none⟩)) n (keptOf n d j j.half j.bytes (Frm.all a)).2.1 (keptOf n d j j.half j.bytes (Frm.all a)).2.2 ∧ Kept F w w') ∧
      (∀ W, Below w.heap.size w W → Calls Tryz.prog 55 #[.pointer (some ⟨b, 0, none⟩), .agg #[.int .i64 (j.seq : Int), .int .i64 ((1 - j.half : Nat) : Int), .int .i64 0], .slice none 0 0, lv] W fun e w' =>
        e = .returned (.int .i64 (keptOf n d j (1 - j.half) [] (Frm.all a)).1) ∧ JAt AtL JOwn w' (Grow F w w') dv (.pointer (some ⟨b, 0, none⟩)) n (keptOf n d j (1 - j.half) [] (Frm.all a)).2.1 (keptOf n d j (1 - j.half) [] (Frm.all a)).2.2 ∧ Kept F w w') := by
  obtain ⟨F1, F2, h1, ⟨b, tv, rfl, h2, hb, ht, hlt, hh, hf, hsq⟩, h3, h4, h5⟩ := h
  have hfew := atl_few h1
  have hn := hs.shape.len
  have hback : ∀ W w', Below w.heap.size w W → ∀ {x : Int} {e : Ending} {d' : D} {j' : J}, (e = .returned (.int .i64 x) ∧ JAt AtL JOwn w' (Grow F W w') dv (.pointer (some ⟨b, 0, none⟩)) n d' j' ∧ Kept F W w') → e = .returned (.int .i64 x) ∧ JAt AtL JOwn w' (Grow F w w') dv (.pointer (some ⟨b, 0, none⟩)) n d' j' ∧ Kept F w w' := by
    intro W w' hb' x e d' j' hh
    refine ⟨hh.1, jat_mono hh.2.1 (fun i hi => ?_), (Kept.ofBelow hb' F).trans hh.2.2 (fun _ _ h => h)⟩
    have := hb'.size
    rcases hi with hi | hi
    · exact Or.inl hi
    · exact Or.inr (by omega)
  have hw : ∀ W, Below w.heap.size w W → AtL W F1 dv d ∧ Row W b 106 (jcells dv j.seq j.half j.bytes.length tv false) ∧ BytesAt W (fun i => F2 i ∧ i ≠ b) tv (tailB j.bytes) ∧ Cells W G lv (texts a) ∧ ∀ i, F2 i → i < W.heap.size := fun W hb' =>
    ⟨atl_below h1 hb', by have := h2.below hb' (hlt b hb); rwa [hbr] at this, ht.kept (Kept.ofBelow hb' (fun _ => False)) (fun _ _ h => h), hl.below hb', fun i hi => Nat.lt_of_lt_of_le (hlt i hi) hb'.size⟩
  refine ⟨b, tv, rfl, h2, hh, hlt b hb, fun W hb' hpos => ?_, fun W hb' => ?_⟩
  · obtain ⟨g1, g2, g3, g4, g5⟩ := hw W hb'
    exact (jkeep_any (pre := j.bytes) (half := j.half) (N := N) g1 hs (by omega) hN g2 hb g5 h3 h4 h5 g3 (g3.mono (fun i hi => hi.1)) g4 ha hat hbr hh hf (by omega) hh hf (Or.inl hpos)).mono fun e w' hh => hback W w' hb' hh
  · obtain ⟨g1, g2, g3, g4, g5⟩ := hw W hb'
    exact (jkeep_any (pre := []) (half := 1 - j.half) (N := N) (tv := .slice none 0 0) g1 hs (by omega) hN g2 hb g5 h3 h4 h5 g3 (Or.inl ⟨rfl, by simp [tailB]⟩) g4 ha hat hbr hh hf (by omega) (by omega) (by simp) (Or.inr rfl)).mono fun e w' hh => hback W w' hb' hh

set_option maxRecDepth 100000 in
theorem jnl_append (h : JAt AtL JOwn w F dv jv n d j) (hs : Sound n d N) (hN0 : N ≤ 100000) (hN : j.broken = true ∨ (Held n d j ∧ N + hof n + 3 ≤ 100000)) (hl : Cells w G lv (texts a)) (hG : ∀ k, G k → ¬ F k) (ha : a.length ≤ 100000) (hat : ∀ t ∈ a, t.length ≤ 16777216) :
    Calls Tryz.prog 27 #[jv, lv] w fun e w' => e = .returned (.int .i64 (Jnl.append n d j a).1) ∧ JAt AtL JOwn w' (Grow F w w') dv jv n (Jnl.append n d j a).2.1 (Jnl.append n d j a).2.2 ∧ Kept F w w' := by
  by_cases hr : readyE j = 0
  · have hbr : j.broken = false := by
      unfold readyE at hr
      by_cases hb : j.broken = true
      · rw [if_pos hb] at hr; omega
      · simpa using hb
    have hq : j.seq ≠ 9223372036854775807 := by
      unfold readyE at hr
      intro hq
      rw [if_neg (by rw [hbr]; decide), if_pos hq] at hr
      omega
    have hheld : Held n d j ∧ N + hof n + 3 ≤ 100000 := hN.resolve_left (by rw [hbr]; decide)
    obtain ⟨A, c, e0⟩ : ∃ A c, lv = .slice A (texts a).length c := by
      obtain ⟨A, c, e, -⟩ := hl
      exact ⟨A, c, e⟩
    by_cases hnil : a = []
    · have hA : Jnl.append n d j a = (0, d, j) := by
        subst hnil
        have h0 : (Frm.all []).length = 0 := rfl
        unfold Jnl.append
        rw [if_neg (by rw [hbr]; decide), if_neg hq, if_neg (by rw [h0]; omega), if_neg (by rw [h0]; have := hheld.1.fits; omega), if_pos rfl]
      rw [hA]
      subst hnil
      have fin := Lib.hid (jat_same h)
      obtain ⟨F1, F2, h1, ⟨b, tv, rfl, h2, -⟩, -⟩ := h
      have HR := Lib.hid (ready_any h2)
      rw [hr] at HR
      have e1 : lv = .slice A 0 c := e0
      subst e1
      clear h1 h2 hr hbr hq hheld hN hA hs e0
      go_enter Tryz.func27, Tryz.ntmps27
      go_wp2_with (go_at_call 54; refine HR.out.mono ?_; rintro e w' ⟨rfl, rfl⟩)
      go_ret
      exact ⟨rfl, fin.out⟩
    · rw [append_keptOf hbr hq hnil]
      obtain ⟨b, tv, rfl, h2, hh, hbw, HK, -⟩ := keep_in h hs hheld.2 hbr hq hl ha hat
      have HR := Lib.hid (ready_any h2)
      rw [hr] at HR
      have hlen : (texts a).length = a.length := by simp [texts]
      rw [hlen] at e0
      have hpos : 0 < a.length := List.length_pos_iff.2 hnil
      have hne : ((a.length : Int) == 0) = false := beq_eq_false_iff_ne.2 (by omega)
      have c1 : w.cell? ⟨b, 1, none⟩ = some (.int .i64 (j.seq : Int)) := h2.at 1
      have c2 : w.cell? ⟨b, 2, none⟩ = some (.int .i64 (j.half : Int)) := h2.at 2
      have c3 : w.cell? ⟨b, 3, none⟩ = some (.int .i64 (j.bytes.length : Int)) := h2.at 3
      have c4 : w.cell? ⟨b, 4, none⟩ = some tv := h2.at 4
      have HK := Lib.hid (fun W hb' => HK W hb' (frm_all_pos hnil))
      subst e0
      clear h h2 hr hbr hq hheld hN hs hl hlen hpos hnil hG ha hat hh
      go_enter Tryz.func27, Tryz.ntmps27
      go_wp2_with (go_at_call 54; refine HR.out.mono ?_; rintro e w' ⟨rfl, rfl⟩)
      go_still_tail 10, (by kernel_rfl)
      change wpList _ _ _ _ _ w.drew
      have hb1 : Below w.heap.size w w.drew := Below.drew (Below.refl _ _)
      go_wp2_with (go_at_call 55; refine (HK.out _ hb1).mono ?_; rintro e w' ⟨rfl, h9⟩)
      go_ret
      exact ⟨rfl, h9⟩
  · have hA : Jnl.append n d j a = (readyE j, d, j) := by
      unfold readyE at hr ⊢
      unfold Jnl.append
      by_cases hb : j.broken = true
      · rw [if_pos hb, if_pos hb]
      · rw [if_neg hb] at hr
        rw [if_neg hb, if_neg hb]
        by_cases hq : j.seq = 9223372036854775807
        · rw [if_pos hq, if_pos hq]
        · rw [if_neg hq] at hr; omega
    rw [hA]
    have hne : (readyE j != 0) = true := by simpa using hr
    have fin := Lib.hid (jat_same h)
    obtain ⟨F1, F2, h1, ⟨b, tv, rfl, h2, -⟩, -⟩ := h
    have HR := Lib.hid (ready_any h2)
    generalize readyE j = X at *
    clear h1 h2 hr hA hs hl hN hG ha hat
    go_enter Tryz.func27, Tryz.ntmps27
    go_wp2_with (go_at_call 54; refine HR.out.mono ?_; rintro e w' ⟨rfl, rfl⟩)
    go_ret
    exact ⟨rfl, fin.out⟩

set_option maxRecDepth 100000 in
theorem jnl_rewrite (h : JAt AtL JOwn w F dv jv n d j) (hs : Sound n d N) (hN0 : N ≤ 100000) (hN : j.broken = true ∨ (Held n d j ∧ N + hof n + 3 ≤ 100000)) (hl : Cells w G lv (texts a)) (hG : ∀ k, G k → ¬ F k) (ha : a.length ≤ 100000) (hat : ∀ t ∈ a, t.length ≤ 16777216) :
    Calls Tryz.prog 68 #[jv, lv] w fun e w' => e = .returned (.int .i64 (Jnl.rewrite n d j a).1) ∧ JAt AtL JOwn w' (Grow F w w') dv jv n (Jnl.rewrite n d j a).2.1 (Jnl.rewrite n d j a).2.2 ∧ Kept F w w' := by
  by_cases hr : readyE j = 0
  · have hbr : j.broken = false := by
      unfold readyE at hr
      by_cases hb : j.broken = true
      · rw [if_pos hb] at hr; omega
      · simpa using hb
    have hq : j.seq ≠ 9223372036854775807 := by
      unfold readyE at hr
      intro hq
      rw [if_neg (by rw [hbr]; decide), if_pos hq] at hr
      omega
    have hheld : Held n d j ∧ N + hof n + 3 ≤ 100000 := hN.resolve_left (by rw [hbr]; decide)
    rw [rewrite_keptOf hbr hq]
    obtain ⟨b, tv, rfl, h2, hh, hbw, -, HK⟩ := keep_in h hs hheld.2 hbr hq hl ha hat
    have HR := Lib.hid (ready_any h2)
    rw [hr] at HR
    have c1 : w.cell? ⟨b, 1, none⟩ = some (.int .i64 (j.seq : Int)) := h2.at 1
    have c2 : w.cell? ⟨b, 2, none⟩ = some (.int .i64 (j.half : Int)) := h2.at 2
    have hhI : IntKind.i64.wrap (1 - (j.half : Int)) = ((1 - j.half : Nat) : Int) := by
      rw [IntWalk.i64_in _ ⟨by omega, by omega⟩]
      omega
    have HK := Lib.hid HK
    clear h h2 hr hbr hq hheld hN hs hl hG ha hat hh
    generalize hX : ((1 - j.half : Nat) : Int) = X at *
    clear hX
    go_enter Tryz.func68, Tryz.ntmps68
    go_wp2_with (go_at_call 54; refine HR.out.mono ?_; rintro e w' ⟨rfl, rfl⟩)
    go_still_tail 14, (by kernel_rfl)
    change wpList _ _ _ _ _ w.drew
    have hb1 : Below w.heap.size w w.drew := Below.drew (Below.refl _ _)
    go_wp2_with (go_at_call 55; refine (HK.out _ hb1).mono ?_; rintro e w' ⟨rfl, h9⟩)
    go_ret
    exact ⟨rfl, h9⟩
  · have hA : Jnl.rewrite n d j a = (readyE j, d, j) := by
      unfold readyE at hr ⊢
      unfold Jnl.rewrite
      by_cases hb : j.broken = true
      · rw [if_pos hb, if_pos hb]
      · rw [if_neg hb] at hr
        rw [if_neg hb, if_neg hb]
        by_cases hq : j.seq = 9223372036854775807
        · rw [if_pos hq, if_pos hq]
        · rw [if_neg hq] at hr; omega
    rw [hA]
    have hne : (readyE j != 0) = true := by simpa using hr
    have fin := Lib.hid (jat_same h)
    obtain ⟨F1, F2, h1, ⟨b, tv, rfl, h2, -⟩, -⟩ := h
    have HR := Lib.hid (ready_any h2)
    generalize readyE j = X at *
    clear h1 h2 hr hA hs hl hN hG ha hat
    go_enter Tryz.func68, Tryz.ntmps68
    go_wp2_with (go_at_call 54; refine HR.out.mono ?_; rintro e w' ⟨rfl, rfl⟩)
    go_ret
    exact ⟨rfl, fin.out⟩

set_option maxRecDepth 100000 in
theorem none_append (w : World) (lv : Value) : Calls Tryz.prog 27 #[.pointer none, lv] w fun e w' => e = .returned (.int .i64 1) ∧ Below w.heap.size w w' := by
  have HR := Lib.hid (ready_none w)
  go_enter Tryz.func27, Tryz.ntmps27
  go_wp2_with (go_at_call 54; refine HR.out.mono ?_; rintro e w' ⟨rfl, rfl⟩)
  go_ret
  exact ⟨rfl, Below.refl _ _⟩

set_option maxRecDepth 100000 in
theorem none_rewrite (w : World) (lv : Value) : Calls Tryz.prog 68 #[.pointer none, lv] w fun e w' => e = .returned (.int .i64 1) ∧ Below w.heap.size w w' := by
  have HR := Lib.hid (ready_none w)
  go_enter Tryz.func68, Tryz.ntmps68
  go_wp2_with (go_at_call 54; refine HR.out.mono ?_; rintro e w' ⟨rfl, rfl⟩)
  go_ret
  exact ⟨rfl, Below.refl _ _⟩
end
end Go.Proofs.YtbfjageaheijbaaGreat
/- The landed journal: the head that holds. -/
set_option linter.unusedSimpArgs false
set_option linter.unusedVariables false
namespace Go.Proofs.YtbfjageaheijbaaGreat
open Go.RowKit Dsk Jnl

abbrev HdOpt := Option (Nat × Nat × Nat)

def hcells : HdOpt → Array Value
  | some (q, a, u) => #[.int .i64 (q : Int), .int .i64 (a : Int), .int .i64 (u : Int)]
  | none => #[.int .i64 0, .int .i64 0, .int .i64 0]

def herr : HdOpt → Int
  | some _ => 0
  | none => 8

/-- The better of two. -/
def better (b a : HdOpt) : HdOpt :=
  match a with
  | none => b
  | some x => match b with
    | none => some x
    | some y => if x.1 ≤ y.1 then some y else some x

def bestOf (n : Nat) (X : Nat → ByteArray) : Nat → HdOpt
  | 0 => none
  | k + 1 => better (bestOf n X k) (headAt n (X k).data.toList)

set_option maxRecDepth 100000 in
theorem bestOf_two (n : Nat) (X : Nat → ByteArray) : bestOf n X 2 = cur n (X 0).data.toList (X 1).data.toList := by
  unfold bestOf bestOf bestOf cur better
  cases headAt n (X 0).data.toList <;> cases headAt n (X 1).data.toList <;> rfl

set_option maxRecDepth 100000 in
theorem set_three {w : World} {b : Nat} {t : TypeId} {x y z x' y' z' : Value} (h : Row w b t #[x, y, z]) : Row (((w.setCell ⟨b, 0, none⟩ x').setCell ⟨b, 1, none⟩ y').setCell ⟨b, 2, none⟩ z') b t #[x', y', z'] := by
  simpa using ((h.stored 0 x').stored 1 y').stored 2 z'

set_option maxRecDepth 100000 in
theorem kept_three {w : World} {b : Nat} {Z : Nat → Prop} (hb : Z b) (x y z : Value) : Kept Z w (((w.setCell ⟨b, 0, none⟩ x).setCell ⟨b, 1, none⟩ y).setCell ⟨b, 2, none⟩ z) :=
  (((Kept.refl Z w).stored (Or.inl hb) x).stored (Or.inl hb) y).stored (Or.inl hb) z

/-- At the head of round k. -/
structure NewAt (w : World) (F : Nat → Prop) (dv : Value) (d : D) (n k : Nat) (wr : World) : Prop where
  has : Has w F (fun i => i = w.heap.size ∨ i = w.heap.size + 1) dv d wr
  res : Row wr w.heap.size 96 #[.int .i64 0, .int .i64 0, .int .i64 0]
  best : Row wr (w.heap.size + 1) 96 (hcells (bestOf n (Jnl.now d) k))

set_option maxRecDepth 100000 in
theorem hcells_eq (o : HdOpt) : ∃ q a u : Nat, hcells o = #[.int .i64 (q : Int), .int .i64 (a : Int), .int .i64 (u : Int)] ∧ (∀ x, o = some x → x = (q, a, u)) := by
  cases o with
  | none => exact ⟨0, 0, 0, rfl, fun x h => by cases h⟩
  | some x => exact ⟨x.1, x.2.1, x.2.2, rfl, fun y h => by injection h with h; exact h.symm⟩

set_option maxRecDepth 100000 in
set_option maxHeartbeats 1600000 in
theorem newest_any {w : World} {F : Nat → Prop} {dv : Value} {d : D} {n N : Nat} (h : AtL w F dv d) (hf : d.Fine N) (hN : N ≤ 100000) (hn : d.S.length = n) (h4 : 4 ≤ n) (hm : n ≤ 4096) (hd : d.down = false) (hfull : ∀ k, k < n → (Jnl.now d k).data.toList.length = 64) :
    Calls Tryz.prog 50 #[dv] w fun e w' => e = .returned (.tuple #[.agg (hcells (cur (hof n) (Jnl.now d 0).data.toList (Jnl.now d 1).data.toList)), .int .i64 (herr (cur (hof n) (Jnl.now d 0).data.toList (Jnl.now d 1).data.toList))]) ∧ Doing AtL w F dv d w' := by
  rw [← bestOf_two]
  have hh : hof n ≤ 4096 := by unfold hof; omega
  have HR := Lib.hid (fun (wr : World) (k : Nat) (hk : k < n) (H : Has w F (fun i => i = w.heap.size ∨ i = w.heap.size + 1) dv d wr) => H.read hf hN hn hk hd)
  have HB := Lib.hid (fun (wr : World) (H : Has w F (fun i => i = w.heap.size ∨ i = w.heap.size + 1) dv d wr) => H.look (fun G hG => half_bytes hG hn h4 hm))
  have HH : Hid (∀ (k : Nat) (hk : k < n) (W : World), Calls Tryz.prog 77 #[.string (Jnl.now d k), .int .i64 ((64 * hof n : Nat) : Int)] W fun e w' => e = .returned (.tuple (scanned (headAt (hof n) (Jnl.now d k).data.toList))) ∧ Below W.heap.size W w') := Lib.hid (fun k hk W => read_head (Jnl.now d k) (by rw [Lib.size_eq]; exact hfull k hk) (hof n) hh W)
  have hlt := Lib.hid h.2
  generalize hV : ((64 * hof n : Nat) : Int) = V at *
  have hstart : Hid (NewAt w F dv d (hof n) 0 ((w.alloc (.cells #[.int .i64 0, .int .i64 0, .int .i64 0] 96)).alloc (.cells #[.int .i64 0, .int .i64 0, .int .i64 0] 96))) := Lib.hid ⟨
    (Has.start (Z := fun _ => False) h (fun _ _ h => h) (fun _ h => h.elim)).more (((Below.refl _ _).alloc (Nat.le_refl _) _).alloc (by simp) _) (fun i hi => Or.inr (by simp; omega)),
    (Row.made _ _ _).behindNew _, by have := Row.made (w.alloc (.cells #[.int .i64 0, .int .i64 0, .int .i64 0] 96)) 96 #[.int .i64 0, .int .i64 0, .int .i64 0]; simpa [bestOf, hcells] using this⟩
  obtain ⟨b, rfl⟩ := atl_addr h
  have h4' : Hid (4 ≤ n) := Lib.hid h4
  clear h hf hd hfull hh hn h4 hm
  go_enter Tryz.func50, Tryz.ntmps50
  go_wp2_with fail
  go_step3
  go_wp2_with fail
  go_step3
  go_wp2_with fail
  go_loopw [5, 11] (fun e i wr => ∃ k : Nat, k ≤ 2 ∧ i = .int .i64 (k : Int) ∧ e = .int .i64 (herr (bestOf (hof n) (Jnl.now d) k)) ∧ NewAt w F (.pointer (some ⟨b, 0, none⟩)) d (hof n) k wr) (fun _ i _ => (2 - intOf i).toNat)
  case atStart => exact ⟨0, by omega, rfl, rfl, hstart.out⟩
  case round =>
    obtain ⟨k, hk, rfl, rfl, hat⟩ := hrel
    by_cases hlt2 : k < 2
    · have hk1 : decide ((k : Int) < 2) = true := decide_eq_true (by omega)
      have hkn := h4'.out
      have hread := HR.out wr k (by omega) hat.has
      have hhd := HH.out k (by omega)
      have hbest : bestOf (hof n) (Jnl.now d) (k + 1) = better (bestOf (hof n) (Jnl.now d) k) (headAt (hof n) (Jnl.now d k).data.toList) := rfl
      have Hread := Lib.hid hread
      have Hhd := Lib.hid hhd
      have hres := hat.res
      have hbst := hat.best
      clear hread hhd hkn
      generalize hB : bestOf (hof n) (Jnl.now d) k = B at *
      generalize hX : Jnl.now d k = X at *
      obtain ⟨q0, a0, u0, hc, hsame⟩ := hcells_eq B
      rw [hc] at hbst
      have Hc := Lib.hid hc
      clear hc hat
      cases hA : headAt (hof n) X.data.toList with
      | none =>
        rw [hA] at Hhd hbest
        have hnext : Hid (bestOf (hof n) (Jnl.now d) (k + 1) = B) := Lib.hid hbest
        simp only [scanned] at Hhd
        clear hA hbest hsame
        generalize hEB : herr B = eB at *
        have heB := Lib.hid hEB
        clear hEB
        go_wp2_with (first
          | (go_at_call 76; with_reducible refine Hread.out.mono ?_; rintro e w1 ⟨rfl, h1, hz1⟩
             have r1 := row_same hres hz1 (Or.inl rfl)
             have r2 := row_same hbst hz1 (Or.inr rfl))
          | (go_at_call 66; with_reducible refine (HB.out _ h1).mono ?_; rintro e w' ⟨rfl, rfl⟩)
          | (go_at_call 77; with_reducible refine (Hhd.out _).mono ?_; rintro e w2 ⟨rfl, hb2⟩
             have h2 := Lib.hid (h1.below hb2)
             have r1 := Lib.hid (r1.below hb2 r1.inHeap)
             have r2 := r2.below hb2 r2.inHeap
             have R2 := Lib.hid r2
             have hl2 := r2.inHeap
             have hl3 : ¬ (w2.heap.size = w.heap.size + 1) := by omega
             have hl4 : ¬ (w.heap.size + 1 = w2.heap.size) := by omega
             have c0 := r2.at 0
             have c1 := r2.at 1
             have c2 := r2.at 2
             have f0 := r2.free 0
             have f1 := r2.free 1
             have f2 := r2.free 2
             clear h1 hz1 hb2 hres hbst r2))
        go_roundw
        case rel => exact ⟨k + 1, by omega, rfl, by rw [hnext.out, heB.out], (h2.out.below ((Below.refl _ _).alloc (Nat.le_refl _) _)), r1.out.behindNew _, by rw [hnext.out, Hc.out]; exact R2.out.behindNew _⟩
        case measure => show (2 - ((k : Int) + 1)).toNat < (2 - (k : Int)).toNat; omega
      | some x =>
        obtain ⟨q, a, u⟩ := x
        rw [hA] at Hhd hbest
        simp only [scanned] at Hhd
        clear hA
        cases hBB : B with
        | none =>
          rw [hBB] at hbest
          have hnext : Hid (bestOf (hof n) (Jnl.now d) (k + 1) = some (q, a, u)) := Lib.hid hbest
          have he : herr none = 8 := rfl
          clear hbest hsame
          go_wp2_with (first
            | (go_at_call 76; with_reducible refine Hread.out.mono ?_; rintro e w1 ⟨rfl, h1, hz1⟩
               have r1 := row_same hres hz1 (Or.inl rfl)
               have r2 := row_same hbst hz1 (Or.inr rfl))
            | (go_at_call 66; with_reducible refine (HB.out _ h1).mono ?_; rintro e w' ⟨rfl, rfl⟩)
            | (go_at_call 77; with_reducible refine (Hhd.out _).mono ?_; rintro e w2 ⟨rfl, hb2⟩
               have h2 := Lib.hid (h1.below hb2)
               have r1 := Lib.hid (r1.below hb2 r1.inHeap)
               have r2 := r2.below hb2 r2.inHeap
               have R2 := Lib.hid r2
               have hl2 := r2.inHeap
               have hl3 : ¬ (w2.heap.size = w.heap.size + 1) := by omega
               have hl4 : ¬ (w.heap.size + 1 = w2.heap.size) := by omega
               have c0 := r2.at 0
               have c1 := r2.at 1
               have c2 := r2.at 2
               have f0 := r2.free 0
               have f1 := r2.free 1
               have f2 := r2.free 2
               clear h1 hz1 hb2 hres hbst r2))
          go_roundw
          case rel => exact ⟨k + 1, by omega, rfl, by rw [hnext.out]; rfl, ((h2.out.wrote (kept_three (Or.inr rfl) _ _ _) (fun i hi => by omega)).below ((Below.refl _ _).alloc (Nat.le_refl _) _)), ((r1.out.kept (kept_three (b := w.heap.size + 1) (Z := fun i => i = w.heap.size + 1) rfl _ _ _) (by omega)).behindNew _), by rw [hnext.out]; exact (set_three R2.out).behindNew _⟩
          case measure => show (2 - ((k : Int) + 1)).toNat < (2 - (k : Int)).toNat; omega
        | some y =>
          obtain rfl := hsame y hBB
          rw [hBB] at hbest
          have he : herr (some (q0, a0, u0)) = 0 := rfl
          by_cases hle : q ≤ q0
          · have hnext : Hid (bestOf (hof n) (Jnl.now d) (k + 1) = some (q0, a0, u0)) := Lib.hid (by rw [hbest]; unfold better; simp only; rw [if_pos hle])
            have hle1 : (q : Int) ≤ (q0 : Int) := by omega
            rw [hBB] at Hc
            clear hbest hsame hle
            go_wp2_with (first
              | (go_at_call 76; with_reducible refine Hread.out.mono ?_; rintro e w1 ⟨rfl, h1, hz1⟩
                 have r1 := row_same hres hz1 (Or.inl rfl)
                 have r2 := row_same hbst hz1 (Or.inr rfl))
              | (go_at_call 66; with_reducible refine (HB.out _ h1).mono ?_; rintro e w' ⟨rfl, rfl⟩)
              | (go_at_call 77; with_reducible refine (Hhd.out _).mono ?_; rintro e w2 ⟨rfl, hb2⟩
                 have h2 := Lib.hid (h1.below hb2)
                 have r1 := Lib.hid (r1.below hb2 r1.inHeap)
                 have r2 := r2.below hb2 r2.inHeap
                 have R2 := Lib.hid r2
                 have hl2 := r2.inHeap
                 have hl3 : ¬ (w2.heap.size = w.heap.size + 1) := by omega
                 have hl4 : ¬ (w.heap.size + 1 = w2.heap.size) := by omega
                 have c0 := r2.at 0
                 have c1 := r2.at 1
                 have c2 := r2.at 2
                 have f0 := r2.free 0
                 have f1 := r2.free 1
                 have f2 := r2.free 2
                 clear h1 hz1 hb2 hres hbst r2))
            go_roundw
            case rel => exact ⟨k + 1, by omega, rfl, by rw [hnext.out]; rfl, (h2.out.below ((Below.refl _ _).alloc (Nat.le_refl _) _)), r1.out.behindNew _, by rw [hnext.out, Hc.out]; exact R2.out.behindNew _⟩
            case measure => show (2 - ((k : Int) + 1)).toNat < (2 - (k : Int)).toNat; omega
          · have hnext : Hid (bestOf (hof n) (Jnl.now d) (k + 1) = some (q, a, u)) := Lib.hid (by rw [hbest]; unfold better; simp only; rw [if_neg hle])
            have hle1 : ¬ (q : Int) ≤ (q0 : Int) := by omega
            clear hbest hsame hle
            go_wp2_with (first
              | (go_at_call 76; with_reducible refine Hread.out.mono ?_; rintro e w1 ⟨rfl, h1, hz1⟩
                 have r1 := row_same hres hz1 (Or.inl rfl)
                 have r2 := row_same hbst hz1 (Or.inr rfl))
              | (go_at_call 66; with_reducible refine (HB.out _ h1).mono ?_; rintro e w' ⟨rfl, rfl⟩)
              | (go_at_call 77; with_reducible refine (Hhd.out _).mono ?_; rintro e w2 ⟨rfl, hb2⟩
                 have h2 := Lib.hid (h1.below hb2)
                 have r1 := Lib.hid (r1.below hb2 r1.inHeap)
                 have r2 := r2.below hb2 r2.inHeap
                 have R2 := Lib.hid r2
                 have hl2 := r2.inHeap
                 have hl3 : ¬ (w2.heap.size = w.heap.size + 1) := by omega
                 have hl4 : ¬ (w.heap.size + 1 = w2.heap.size) := by omega
                 have c0 := r2.at 0
                 have c1 := r2.at 1
                 have c2 := r2.at 2
                 have f0 := r2.free 0
                 have f1 := r2.free 1
                 have f2 := r2.free 2
                 clear h1 hz1 hb2 hres hbst r2))
            go_roundw
            case rel => exact ⟨k + 1, by omega, rfl, by rw [hnext.out]; rfl, ((h2.out.wrote (kept_three (Or.inr rfl) _ _ _) (fun i hi => by omega)).below ((Below.refl _ _).alloc (Nat.le_refl _) _)), ((r1.out.kept (kept_three (b := w.heap.size + 1) (Z := fun i => i = w.heap.size + 1) rfl _ _ _) (by omega)).behindNew _), by rw [hnext.out]; exact (set_three R2.out).behindNew _⟩
            case measure => show (2 - ((k : Int) + 1)).toNat < (2 - (k : Int)).toNat; omega
    · obtain rfl : k = 2 := by omega
      have hres := hat.res
      have hbst := hat.best
      have hhas := Lib.hid (hat.has.doing hlt.out)
      have Hat := Lib.hid hat
      clear hat
      generalize hBB : bestOf (hof n) (Jnl.now d) 2 = B at *
      have HB2 := Lib.hid hBB
      clear hBB
      obtain ⟨q0, a0, u0, hc, -⟩ := hcells_eq B
      rw [hc] at hbst
      have Hc := Lib.hid hc
      have c0 := hbst.at 0
      have c1 := hbst.at 1
      have c2 := hbst.at 2
      have r0 := hres.at 0
      have r1 := hres.at 1
      have r2 := hres.at 2
      have f0 := hres.free 0
      have f1 := hres.free 1
      have f2 := hres.free 2
      have Hres := Lib.hid hres
      clear hbst hres hc
      generalize hEB : herr B = eB at *
      have heB := Lib.hid hEB
      clear hEB
      go_wp2_with fail
      rw [Exit.noGoto_ret]
      refine bodyPost_ret (v := .tuple #[.agg #[.int .i64 (q0 : Int), .int .i64 (a0 : Int), .int .i64 (u0 : Int)], .int .i64 eB]) (by simp [results, Tryz.results50, go_sem, r0, r1, r2]) rfl ⟨by rw [HB2.out, Hc.out, heB.out], (Hat.out.has.wrote (kept_three (Or.inl rfl) _ _ _) (fun i hi => by omega)).doing hlt.out⟩
end Go.Proofs.YtbfjageaheijbaaGreat
