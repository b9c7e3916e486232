/- The landed journal: bytes are written, sector by sector, and behind them the head. -/
import Derived.Test.YtbfjageaheijbaaGreatCom31
import Derived.Test.YtbfjageaheijbaaGreatCom25
import Derived.Test.YtbfjageaheijbaaGreatCom27
set_option linter.unusedSimpArgs false
set_option linter.unusedVariables false
namespace Go.Proofs.YtbfjageaheijbaaGreat
open Go.RowKit Dsk Jnl

/-- What is not the disk's while its sectors are written. -/
def Wz (w : World) (Fb : Nat → Prop) (b : Nat) (i : Nat) : Prop := i = b ∨ Fb i ∨ (w.heap.size ≤ i ∧ i < w.heap.size + 3)

/-- At the head of round k. -/
structure WrAt (w : World) (F Fb : Nat → Prop) (dv : Value) (b q hh u base i0 : Nat) (all : List UInt8) (c N : Nat) (d : D) (v : Value) (k : Nat) (dk : D) (wr : World) : Prop where
  has : Has w F (Wz w Fb b) dv dk wr
  own : wr.cell? ⟨b, 0, none⟩ = some dv
  box : Row wr w.heap.size 96 #[.int .i64 (q : Int), .int .i64 (hh : Int), .int .i64 (u : Int)]
  fn : Row wr (w.heap.size + 1) 112 #[bound dv]
  at_ : Row wr (w.heap.size + 2) 3 #[.int .i64 ((base + i0 + k : Nat) : Int)]
  bytes : BytesAt wr Fb v (all.drop (64 * (i0 + k)))
  le : k ≤ c
  left : c - k = (all.length - 64 * (i0 + k) + 63) / 64
  same : writeFrom base all i0 c d = writeFrom base all (i0 + k) (c - k) dk
  fine : dk.Fine (N + k)

set_option maxRecDepth 100000 in
theorem writeFrom_step {base i m : Nat} {all : List UInt8} {d : D} : writeFrom base all i (m + 1) d = if (d.write ((base + i : Nat) : Int) (text (chunk all i))).1 = 0 then writeFrom base all (i + 1) m (d.write ((base + i : Nat) : Int) (text (chunk all i))).2 else d.write ((base + i : Nat) : Int) (text (chunk all i)) := rfl

section
variable {w wr w1 : World} {F Fb : Nat → Prop} {dv v v2 : Value} {b q hh u base i0 c N k : Nat} {all : List UInt8} {d dk : D}

set_option maxRecDepth 100000 in
/-- A sector more. -/
theorem WrAt.step (h : WrAt w F Fb dv b q hh u base i0 all c N d v k dk wr) (hb : b < w.heap.size) (hFb : ∀ i, Fb i → i < w.heap.size) (hm : 0 < (all.drop (64 * (i0 + k))).length)
    (hx : (dk.write ((base + i0 + k : Nat) : Int) (text (chunk all (i0 + k)))).1 = 0)
    (h1 : Has w F (Wz w Fb b) dv (dk.write ((base + i0 + k : Nat) : Int) (text (chunk all (i0 + k)))).2 w1) (h2 : Row w1 (w.heap.size + 2) 3 #[.int .i64 ((base + i0 + k + 1 : Nat) : Int)]) (hz : ∀ i, Wz w Fb b i → i ≠ w.heap.size + 2 → w1.heap[i]? = wr.heap[i]?)
    (hv : BytesAt wr Fb v2 (all.drop (64 * (i0 + (k + 1))))) : WrAt w F Fb dv b q hh u base i0 all c N d v2 (k + 1) (dk.write ((base + i0 + k : Nat) : Int) (text (chunk all (i0 + k)))).2 w1 := by
  have hl := h.left
  rw [List.length_drop] at hm
  have hs := h.has.kept.size
  obtain ⟨m, hmm⟩ : ∃ m, c - k = m + 1 := ⟨c - k - 1, by omega⟩
  exact {
    has := h1
    own := (World.cell?_of_block (w := wr) (hz b (Or.inl rfl) (by omega))).trans h.own
    box := (hz w.heap.size (Or.inr (Or.inr (by omega))) (by omega)).trans h.box
    fn := (hz (w.heap.size + 1) (Or.inr (Or.inr (by omega))) (by omega)).trans h.fn
    at_ := h2
    bytes := by
      rcases hv with hv | ⟨g, o, cc, e, hc, hF, hg, hat⟩
      · exact Or.inl hv
      · exact Or.inr ⟨g, o, cc, e, hc, hF, Nat.lt_of_lt_of_le (hFb g hF) h1.kept.size, fun i x hi => (World.cell?_of_block (w := wr) (hz g (Or.inr (Or.inl hF)) (by have := hFb g hF; omega))).trans (hat i x hi)⟩
    le := by omega
    left := by omega
    same := by
      have hc1 : c - (k + 1) = m := by omega
      rw [h.same, hmm, writeFrom_step, hc1]
      have e : base + (i0 + k) = base + i0 + k := by omega
      rw [e, if_pos hx]
      rfl
    fine := by
      have := h.fine.write ((base + i0 + k : Nat) : Int) (text (chunk all (i0 + k)))
      exact this }

set_option maxRecDepth 100000 in
/-- The disk answers with an error. -/
theorem WrAt.fails (h : WrAt w F Fb dv b q hh u base i0 all c N d v k dk wr) (hm : 0 < (all.drop (64 * (i0 + k))).length)
    (hx : (dk.write ((base + i0 + k : Nat) : Int) (text (chunk all (i0 + k)))).1 ≠ 0) : andThen (andThen (writeFrom base all i0 c d) D.flush) (setHead q hh u) = dk.write ((base + i0 + k : Nat) : Int) (text (chunk all (i0 + k))) := by
  have hl := h.left
  rw [List.length_drop] at hm
  obtain ⟨m, hmm⟩ : ∃ m, c - k = m + 1 := ⟨c - k - 1, by omega⟩
  have e : base + (i0 + k) = base + i0 + k := by omega
  rw [h.same, hmm, writeFrom_step, e, if_neg hx]
  unfold andThen
  rw [if_neg hx, if_neg hx]

set_option maxRecDepth 100000 in
theorem WrAt.done (h : WrAt w F Fb dv b q hh u base i0 all c N d v k dk wr) (hm : (all.drop (64 * (i0 + k))).length = 0) : writeFrom base all i0 c d = (0, dk) := by
  have hl := h.left
  rw [List.length_drop] at hm
  have : c - k = 0 := by omega
  rw [h.same, this]
  rfl

set_option maxRecDepth 100000 in
set_option maxHeartbeats 3200000 in
theorem write_any {bv : Value} (h : AtL w F dv d) (hf : d.Fine N) (hN : N + c + 3 ≤ 100000) (hown : w.cell? ⟨b, 0, none⟩ = some dv) (hbF : ¬ F b) (hb : b < w.heap.size) (hFb : ∀ i, Fb i → i < w.heap.size ∧ ¬ F i)
    (hba : BytesAt w Fb bv (all.drop (64 * i0))) (hc : c = (all.length - 64 * i0 + 63) / 64) (hat : base + i0 + c ≤ 100000) (hall : all.length ≤ 1000000) (hq : q < 9223372036854775808) (hh1 : hh < 9223372036854775808) (hu : u < 9223372036854775808) :
    Calls Tryz.prog 82 #[.pointer (some ⟨b, 0, none⟩), .int .i64 ((base + i0 : Nat) : Int), bv, .agg #[.int .i64 (q : Int), .int .i64 (hh : Int), .int .i64 (u : Int)]] w fun e w' =>
      e = .returned (.int .i64 (andThen (andThen (writeFrom base all i0 c d) D.flush) (setHead q hh u)).1) ∧ Doing AtL w F dv (andThen (andThen (writeFrom base all i0 c d) D.flush) (setHead q hh u)).2 w' := by
  have hstart : Hid (∀ w3, w3 = ((w.alloc (.cells #[.int .i64 (q : Int), .int .i64 (hh : Int), .int .i64 (u : Int)] 96)).alloc (.cells #[bound dv] 112)).alloc (.cells #[.int .i64 ((base + i0 : Nat) : Int)] 3) →
      WrAt w F Fb dv b q hh u base i0 all c N d bv 0 d w3) := Lib.hid (fun w3 e => by
    have hb3 : Below w.heap.size w w3 := by
      rw [e]
      exact (((Below.refl _ _).alloc (Nat.le_refl _) _).alloc (by simp) _).alloc (by simp; omega) _
    have s3 : w3.heap.size = w.heap.size + 3 := by rw [e]; simp
    have hr1 : Row w3 w.heap.size 96 #[.int .i64 (q : Int), .int .i64 (hh : Int), .int .i64 (u : Int)] := by
      rw [e]
      exact ((Row.made w _ _).behindNew _).behindNew _
    have hr2 : Row w3 (w.heap.size + 1) 112 #[bound dv] := by
      rw [e]
      have := (Row.made (w.alloc (.cells #[.int .i64 (q : Int), .int .i64 (hh : Int), .int .i64 (u : Int)] 96)) 112 #[bound dv]).behindNew (.cells #[.int .i64 ((base + i0 : Nat) : Int)] 3)
      simpa using this
    have hr3 : Row w3 (w.heap.size + 2) 3 #[.int .i64 ((base + i0 : Nat) : Int)] := by
      rw [e]
      have := Row.made ((w.alloc (.cells #[.int .i64 (q : Int), .int .i64 (hh : Int), .int .i64 (u : Int)] 96)).alloc (.cells #[bound dv] 112)) 3 #[.int .i64 ((base + i0 : Nat) : Int)]
      simpa using this
    exact {
      has := (Has.start (Z := fun i => i = b ∨ Fb i) h (fun i hi hz => by
        rcases hz with rfl | hz
        · exact hbF hi
        · exact (hFb i hz).2 hi) (fun i hz => by
        rcases hz with rfl | hz
        · exact hb
        · exact (hFb i hz).1)).more hb3 (fun i hi => by
        rcases hi with hi | hi | hi
        · exact Or.inl (Or.inl hi)
        · exact Or.inl (Or.inr hi)
        · exact Or.inr (by omega))
      own := (hb3.cell (p := ⟨b, 0, none⟩) hb).trans hown
      box := hr1
      fn := hr2
      at_ := hr3
      bytes := hba.below hb3
      le := Nat.zero_le _
      left := by rw [hc]; rfl
      same := rfl
      fine := hf })
  have Hb := Lib.hid hb
  have HFb := Lib.hid (fun i hi => (hFb i hi).1)
  have hlt := Lib.hid h.2
  have Hall := Lib.hid hall
  have HP := Lib.hid (fun (wr : World) (v bv : Value) (l : List UInt8) (k : Nat) (dk : D) (H : WrAt w F Fb dv b q hh u base i0 all c N d v k dk wr) (hb : BytesAt wr Fb bv l) (hl : l.length ≤ 64) => put_any (Fb := Fb) H.has H.fine (by have := H.le; omega) H.fn H.at_ (Or.inr (Or.inr (by omega))) (Or.inr (Or.inr (by omega))) (by omega) hb hl (by have := H.le; omega))
  have HF := Lib.hid (fun (wr : World) (v : Value) (k : Nat) (dk : D) (H : WrAt w F Fb dv b q hh u base i0 all c N d v k dk wr) => H.has.call (Q := fun e => e = .returned (.int .i64 dk.flush.1)) (fun G hG => atl_flush hG H.fine (by have := H.le; omega)))
  have HS := Lib.hid (fun (wr : World) (d6 : D) (Z : Nat → Prop) (H : Has w F Z dv d6 wr) (hf6 : d6.Fine (N + c + 1)) => H.call (Q := fun e => e = .returned (.int .i64 (setHead q hh u d6).1)) (fun G hG => head_set hG hf6 (by omega) q hh u hq hh1 hu))
  have HFl := Lib.hid (fun (wr : World) (v : Value) (k : Nat) (dk : D) (H : WrAt w F Fb dv b q hh u base i0 all c N d v k dk wr) => H.fine.flush.mono (M := N + c + 1) (by have := H.le; omega))
  have hatI : ((base + i0 : Nat) : Int) ≤ 1000000 := by omega
  obtain ⟨bd, rfl⟩ := atl_addr h
  clear h hf hN hbF hFb hba hc hat hall hq hh1 hu
  go_enter Tryz.func82, Tryz.ntmps82
  go_wp2_with (go_at_call 107; refine (in_order _ (base + i0) _).mono ?_; rintro e w3 ⟨rfl, e3⟩
               have hat3 := Lib.hid (hstart.out w3 e3)
               clear e3)
  go_loopw [2] (fun v wr => ∃ k dk, WrAt w F Fb (.pointer (some ⟨bd, 0, none⟩)) b q hh u base i0 all c N d v k dk wr) (fun v _ => lenIn v)
  case atStart => exact ⟨0, d, hat3.out⟩
  case round =>
    obtain ⟨k, dk, hat⟩ := hrel
    have c0 := hat.own
    by_cases hm0 : (all.drop (64 * (i0 + k))).length = 0
    · have hdone := hat.done hm0
      have hfl := HF.out wr _ k dk hat
      have hfine := HFl.out wr _ k dk hat
      have hbytes := hat.bytes
      rcases hbytes.form with ⟨A, cp, rfl⟩
      rw [hm0] at *
      have hR : andThen (andThen (writeFrom base all i0 c d) D.flush) (setHead q hh u) = if dk.flush.1 = 0 then setHead q hh u dk.flush.2 else dk.flush := by
        rw [hdone]; rfl
      have hrow := hat.box
      have HR := Lib.hid hR
      have Hfl := Lib.hid hfl
      have Hfine := Lib.hid hfine
      have Hrow := Lib.hid hrow
      clear hR hfl hfine hrow hbytes hdone hat
      generalize dk.flush = D1 at *
      obtain ⟨x, d1⟩ := D1
      simp only at *
      by_cases hx : x = 0
      · subst hx
        have HS1 := Lib.hid (fun (wr : World) (Z : Nat → Prop) (H : Has w F Z (.pointer (some ⟨bd, 0, none⟩)) d1 wr) => HS.out wr d1 Z H Hfine.out)
        generalize hD2 : setHead q hh u d1 = D2 at *
        have HR2 : Hid (andThen (andThen (writeFrom base all i0 c d) D.flush) (setHead q hh u) = D2) := Lib.hid (by rw [HR.out, if_pos rfl])
        clear hD2
        obtain ⟨x2, d2⟩ := D2
        simp only at *
        go_wp2_with (go_at_call 86; refine Hfl.out.mono ?_; rintro e w5 ⟨rfl, h5, hz5⟩
                     have hc5 : Row w5 w.heap.size 96 #[.int .i64 (q : Int), .int .i64 (hh : Int), .int .i64 (u : Int)] := (hz5 w.heap.size (Or.inr (Or.inr (by omega)))).trans Hrow.out
                     have hd5 : w5.cell? ⟨b, 0, none⟩ = some (.pointer (some ⟨bd, 0, none⟩)) := (World.cell?_of_block (w := wr) (hz5 b (Or.inl rfl))).trans c0
                     have h5 := Lib.hid h5)
        clear hz5
        have HS5 : Hid ((fun w' : World => Row w' w.heap.size 96 #[.int .i64 (q : Int), .int .i64 (hh : Int), .int .i64 (u : Int)] ∧ w'.cell? ⟨b, 0, none⟩ = some (.pointer (some ⟨bd, 0, none⟩))) w5) := Lib.hid ⟨hc5, hd5⟩
        clear hc5 hd5 c0
        refine wp_region_held_drew (S := (fun w' : World => Row w' w.heap.size 96 #[.int .i64 (q : Int), .int .i64 (hh : Int), .int .i64 (u : Int)] ∧ w'.cell? ⟨b, 0, none⟩ = some (.pointer (some ⟨bd, 0, none⟩)))) (by kernel_rfl) (HS5.out) (fun hHeld => ?_)
        refine wpAnyH_take (i := 0) (v := ?_) rfl (by kernel_rfl) (by kernel_rfl) (by kernel_rfl) (fun _ _ _ h => h) (Or.inl ⟨by rfl, (by intro w hSw; have c0 := hSw.1.at 0; have c1 := hSw.1.at 1; have c2 := hSw.1.at 2; go_simp; try with_reducible rfl)⟩) (by assumption) ?_
        simp only [Act.put, List.getElem_toArray, List.getElem_cons_zero, List.getElem_cons_succ, List.setIfInBounds_toArray, List.set_cons_zero, List.set_cons_succ]
        refine wpAnyH_take (i := 1) (v := ?_) rfl (by kernel_rfl) (by kernel_rfl) (by kernel_rfl) (fun _ _ _ h => h) (Or.inl ⟨by rfl, (by intro w hSw; go_simp; try with_reducible rfl)⟩) (by assumption) ?_
        simp only [Act.put, List.getElem_toArray, List.getElem_cons_zero, List.getElem_cons_succ, List.setIfInBounds_toArray, List.set_cons_zero, List.set_cons_succ]
        refine wpAnyH_take (i := 2) (v := ?_) rfl (by kernel_rfl) (by kernel_rfl) (by kernel_rfl) (fun _ _ _ h => h) (Or.inl ⟨by rfl, (by intro w hSw; go_simp; try with_reducible rfl)⟩) (by assumption) ?_
        simp only [Act.put, List.getElem_toArray, List.getElem_cons_zero, List.getElem_cons_succ, List.setIfInBounds_toArray, List.set_cons_zero, List.set_cons_succ]
        refine wpAnyH_take (i := 3) (v := ?_) rfl (by kernel_rfl) (by kernel_rfl) (by kernel_rfl) (fun _ _ _ h => h) (Or.inl ⟨by rfl, (by intro w hSw; go_simp; try with_reducible rfl)⟩) (by assumption) ?_
        simp only [Act.put, List.getElem_toArray, List.getElem_cons_zero, List.getElem_cons_succ, List.setIfInBounds_toArray, List.set_cons_zero, List.set_cons_succ]
        refine wpAnyH_take (i := 4) (v := ?_) rfl (by kernel_rfl) (by kernel_rfl) (by kernel_rfl) (fun _ _ _ h => h) (Or.inl ⟨by rfl, (by intro w hSw; have c3 := hSw.2; go_simp; try with_reducible rfl)⟩) (by assumption) ?_
        simp only [Act.put, List.getElem_toArray, List.getElem_cons_zero, List.getElem_cons_succ, List.setIfInBounds_toArray, List.set_cons_zero, List.set_cons_succ]
        refine wpAnyH_ready (rs := [5]) (by kernel_rfl) (by simp) ?_
        refine AllReadyH.cons rfl (fun K hK => ?_) AllReadyH.nil
        go_simp
        go_at_call 57
        refine (HS1.out _ _ (h5.out.below (Below.drew (Below.refl _ _)))).mono ?_
        rintro e w6 ⟨rfl, h6, hz6⟩
        refine hK.out _ _ ⟨(hz6 w.heap.size (Or.inr (Or.inr (by omega)))).trans hHeld.1, (World.cell?_of_block (w := w5.drew) (hz6 b (Or.inl rfl))).trans hHeld.2⟩ (fun hHeld => ?_)
        clear hz6
        clear hK K
        refine wpAnyH_take (i := 6) (v := ?_) rfl (by kernel_rfl) (by kernel_rfl) (by kernel_rfl) (fun _ _ _ h => h) (Or.inl ⟨by rfl, (by intro w hSw; go_simp; try with_reducible rfl)⟩) (by assumption) ?_
        simp only [Act.put, List.getElem_toArray, List.getElem_cons_zero, List.getElem_cons_succ, List.setIfInBounds_toArray, List.set_cons_zero, List.set_cons_succ]
        refine wpAnyH_done (by kernel_rfl) ?_ _
        have H6 := Lib.hid h6
        clear h6 hHeld
        go_wp2_with fail
        go_ret
        exact ⟨by rw [HR2.out]; rfl, by rw [HR2.out]; exact H6.out.doing hlt.out⟩
      · have hxb : (x != 0) = true := by simpa using hx
        have HR2 : Hid (andThen (andThen (writeFrom base all i0 c d) D.flush) (setHead q hh u) = (x, d1)) := Lib.hid (by rw [HR.out, if_neg hx])
        clear hx
        go_wp2_with (go_at_call 86; refine Hfl.out.mono ?_; rintro e w5 ⟨rfl, h5, hz5⟩
                     have h5 := Lib.hid h5
                     clear hz5)
        go_ret
        exact ⟨by rw [HR2.out]; rfl, by rw [HR2.out]; exact h5.out.doing hlt.out⟩
    · have hbytes := hat.bytes
      have hlen : (all.drop (64 * (i0 + k))).length ≤ 1000000 := by rw [List.length_drop]; have := Hall.out; omega
      have Hm : Hid (0 < (all.drop (64 * (i0 + k))).length) := Lib.hid (by omega)
      have Hat := Lib.hid hat
      have hck : chunk all (i0 + k) = (all.drop (64 * (i0 + k))).take 64 := rfl
      have hdd : all.drop (64 * (i0 + (k + 1))) = (all.drop (64 * (i0 + k))).drop 64 := by rw [List.drop_drop]; congr 1
      rcases hbytes with ⟨-, e⟩ | ⟨g, o, cp, rfl, hcp, hF, hg, hcell⟩
      · rw [e] at hm0; exact absurd rfl hm0
      · have Hcell := Lib.hid hcell
        have HFg := Lib.hid hF
        have Hg := Lib.hid hg
        have Hck := Lib.hid hck
        have Hdd := Lib.hid hdd
        clear hcell hck hdd hat hF hg
        generalize hm : (all.drop (64 * (i0 + k))).length = m at *
        have HM := Lib.hid hm
        have hmI : (m : Int) ≤ 1000000 := by omega
        have hb1 : decide ((m : Int) > 0) = true := decide_eq_true (by omega)
        have hcI : (m : Int) ≤ (cp : Int) := by omega
        clear hm
        by_cases h64 : m ≤ 64
        · have g1 : (m : Int) ≤ 64 := by omega
          have hmin : min (m : Int) 64 = (m : Int) := by omega
          by_cases hmc : m = cp
          · subst hmc
            have hcut : BytesAt wr Fb (.slice (some ⟨g, o, none⟩) m m) (chunk all (i0 + k)) := by rw [Hck.out, List.take_of_length_le (by rw [HM.out]; exact h64)]; exact Or.inr ⟨g, o, m, by rw [HM.out], by rw [HM.out]; exact Nat.le_refl _, HFg.out, Hg.out, Hcell.out⟩
            have hrest : BytesAt wr Fb (.slice (some ⟨g, o, none⟩) 0 0) (all.drop (64 * (i0 + (k + 1)))) := Or.inr ⟨g, o, 0, by rw [Hdd.out, List.length_drop, HM.out, Nat.sub_eq_zero_of_le h64], by rw [Hdd.out, List.length_drop, HM.out]; omega, HFg.out, Hg.out, fun i x hi => by rw [Hdd.out, List.drop_eq_nil_of_le (by rw [HM.out]; exact h64)] at hi; cases hi⟩
            have HPn := Lib.hid (HP.out wr _ _ _ _ _ Hat.out hcut (chunk_len all (i0 + k)))
            have Hrest := Lib.hid hrest
            clear hcut hrest
            by_cases hx : (dk.write ((base + i0 + k : Nat) : Int) (text (chunk all (i0 + k)))).1 = 0
            · have hstep := Lib.hid (fun w1 => Hat.out.step (w1 := w1) (v2 := .slice (some ⟨g, o, none⟩) 0 0) Hb.out HFb.out (by rw [HM.out]; exact Hm.out) hx)
              have Hx := Lib.hid hx
              rw [hx] at HPn
              clear hx
              generalize (dk.write ((base + i0 + k : Nat) : Int) (text (chunk all (i0 + k)))).2 = d1 at *
              go_wp2_with (go_at_call 134; refine HPn.out.mono ?_; rintro e w1 ⟨rfl, h1, h2, hz⟩
                           have hnew := Lib.hid (hstep.out w1 h1 h2 hz Hrest.out)
                           clear h1 h2 hz)
              go_roundw
              case rel => exact ⟨k + 1, d1, hnew.out⟩
              case measure => show 0 < m; omega
            · have hfin := Lib.hid (Hat.out.fails (by rw [HM.out]; exact Hm.out) hx)
              have hxb : ((dk.write ((base + i0 + k : Nat) : Int) (text (chunk all (i0 + k)))).1 != 0) = true := by simpa using hx
              clear hx
              generalize dk.write ((base + i0 + k : Nat) : Int) (text (chunk all (i0 + k))) = D1 at *
              obtain ⟨x, d1⟩ := D1
              simp only at *
              go_wp2_with (go_at_call 134; refine HPn.out.mono ?_; rintro e w1 ⟨rfl, h1, h2, hz⟩
                           have h1 := Lib.hid h1
                           clear h2 hz)
              go_ret
              exact ⟨by rw [hfin.out]; rfl, by rw [hfin.out]; exact h1.out.doing hlt.out⟩
          · have g2 : (m : Int) < (cp : Int) := by omega
            have hcut : BytesAt wr Fb (.slice (some ⟨g, o, none⟩) m cp) (chunk all (i0 + k)) := by rw [Hck.out, List.take_of_length_le (by rw [HM.out]; exact h64)]; exact Or.inr ⟨g, o, cp, by rw [HM.out], by rw [HM.out]; omega, HFg.out, Hg.out, Hcell.out⟩
            have hrest : BytesAt wr Fb (.slice (some ⟨g, o + m, none⟩) 0 (cp - m)) (all.drop (64 * (i0 + (k + 1)))) := Or.inr ⟨g, o + m, cp - m, by rw [Hdd.out, List.length_drop, HM.out, Nat.sub_eq_zero_of_le h64], by rw [Hdd.out, List.length_drop, HM.out]; omega, HFg.out, Hg.out, fun i x hi => by rw [Hdd.out, List.drop_eq_nil_of_le (by rw [HM.out]; exact h64)] at hi; cases hi⟩
            have HPn := Lib.hid (HP.out wr _ _ _ _ _ Hat.out hcut (chunk_len all (i0 + k)))
            have Hrest := Lib.hid hrest
            clear hcut hrest
            by_cases hx : (dk.write ((base + i0 + k : Nat) : Int) (text (chunk all (i0 + k)))).1 = 0
            · have hstep := Lib.hid (fun w1 => Hat.out.step (w1 := w1) (v2 := .slice (some ⟨g, o + m, none⟩) 0 (cp - m)) Hb.out HFb.out (by rw [HM.out]; exact Hm.out) hx)
              have Hx := Lib.hid hx
              rw [hx] at HPn
              clear hx
              generalize (dk.write ((base + i0 + k : Nat) : Int) (text (chunk all (i0 + k)))).2 = d1 at *
              go_wp2_with (go_at_call 134; refine HPn.out.mono ?_; rintro e w1 ⟨rfl, h1, h2, hz⟩
                           have hnew := Lib.hid (hstep.out w1 h1 h2 hz Hrest.out)
                           clear h1 h2 hz)
              go_roundw
              case rel => exact ⟨k + 1, d1, hnew.out⟩
              case measure => show 0 < m; omega
            · have hfin := Lib.hid (Hat.out.fails (by rw [HM.out]; exact Hm.out) hx)
              have hxb : ((dk.write ((base + i0 + k : Nat) : Int) (text (chunk all (i0 + k)))).1 != 0) = true := by simpa using hx
              clear hx
              generalize dk.write ((base + i0 + k : Nat) : Int) (text (chunk all (i0 + k))) = D1 at *
              obtain ⟨x, d1⟩ := D1
              simp only at *
              go_wp2_with (go_at_call 134; refine HPn.out.mono ?_; rintro e w1 ⟨rfl, h1, h2, hz⟩
                           have h1 := Lib.hid h1
                           clear h2 hz)
              go_ret
              exact ⟨by rw [hfin.out]; rfl, by rw [hfin.out]; exact h1.out.doing hlt.out⟩
        · have g1 : (64 : Int) < (m : Int) := by omega
          have g1' : (64 : Int) ≤ (m : Int) := by omega
          have hmin : min (m : Int) 64 = 64 := by omega
          have g2 : (64 : Int) < (cp : Int) := by omega
          have g3 : (64 : Int) ≤ (cp : Int) := by omega
          have hcut : BytesAt wr Fb (.slice (some ⟨g, o, none⟩) 64 cp) (chunk all (i0 + k)) := by rw [Hck.out]; exact Or.inr ⟨g, o, cp, by rw [List.length_take, HM.out, Nat.min_eq_left (by omega)], by rw [List.length_take, HM.out]; omega, HFg.out, Hg.out, fun i x hi => by refine Hcell.out i x ?_; unfold Lib.byteCells at hi ⊢; rw [List.map_take, List.getElem?_take] at hi; split at hi; exact hi; cases hi⟩
          have hrest : BytesAt wr Fb (.slice (some ⟨g, o + 64, none⟩) (m - 64) (cp - 64)) (all.drop (64 * (i0 + (k + 1)))) := Or.inr ⟨g, o + 64, cp - 64, by rw [Hdd.out, List.length_drop, HM.out], by rw [Hdd.out, List.length_drop, HM.out]; omega, HFg.out, Hg.out, fun i x hi => by rw [Nat.add_assoc]; refine Hcell.out (64 + i) x ?_; rw [Hdd.out] at hi; unfold Lib.byteCells at hi ⊢; rw [List.map_drop, List.getElem?_drop] at hi; exact hi⟩
          have HPn := Lib.hid (HP.out wr _ _ _ _ _ Hat.out hcut (chunk_len all (i0 + k)))
          have Hrest := Lib.hid hrest
          clear hcut hrest
          by_cases hx : (dk.write ((base + i0 + k : Nat) : Int) (text (chunk all (i0 + k)))).1 = 0
          · have hstep := Lib.hid (fun w1 => Hat.out.step (w1 := w1) (v2 := .slice (some ⟨g, o + 64, none⟩) (m - 64) (cp - 64)) Hb.out HFb.out (by rw [HM.out]; exact Hm.out) hx)
            have Hx := Lib.hid hx
            rw [hx] at HPn
            clear hx
            generalize (dk.write ((base + i0 + k : Nat) : Int) (text (chunk all (i0 + k)))).2 = d1 at *
            go_wp2_with (go_at_call 134; refine HPn.out.mono ?_; rintro e w1 ⟨rfl, h1, h2, hz⟩
                         have hnew := Lib.hid (hstep.out w1 h1 h2 hz Hrest.out)
                         clear h1 h2 hz)
            go_roundw
            case rel => exact ⟨k + 1, d1, hnew.out⟩
            case measure => show m - 64 < m; omega
          · have hfin := Lib.hid (Hat.out.fails (by rw [HM.out]; exact Hm.out) hx)
            have hxb : ((dk.write ((base + i0 + k : Nat) : Int) (text (chunk all (i0 + k)))).1 != 0) = true := by simpa using hx
            clear hx
            generalize dk.write ((base + i0 + k : Nat) : Int) (text (chunk all (i0 + k))) = D1 at *
            obtain ⟨x, d1⟩ := D1
            simp only at *
            go_wp2_with (go_at_call 134; refine HPn.out.mono ?_; rintro e w1 ⟨rfl, h1, h2, hz⟩
                         have h1 := Lib.hid h1
                         clear h2 hz)
            go_ret
            exact ⟨by rw [hfin.out]; rfl, by rw [hfin.out]; exact h1.out.doing hlt.out⟩
end
end Go.Proofs.YtbfjageaheijbaaGreat
/- The landed journal in memory, and the calls that only look. -/
set_option linter.unusedSimpArgs false
set_option linter.unusedVariables false
namespace Go.Proofs.YtbfjageaheijbaaGreat
open Go.RowKit Dsk Jnl

def jcells (dv : Value) (q h u : Nat) (tv : Value) (br : Bool) : Array Value := #[dv, .int .i64 (q : Int), .int .i64 (h : Int), .int .i64 (u : Int), tv, .bool br]

/-- A journal of a disk of n sectors, of blocks of F. -/
def JOwn (w : World) (F : Nat → Prop) (dv jv : Value) (n : Nat) (j : J) : Prop :=
  ∃ b tv, jv = .pointer (some ⟨b, 0, none⟩) ∧ Row w b 106 (jcells dv j.seq j.half j.bytes.length tv j.broken) ∧ F b ∧ BytesAt w (fun i => F i ∧ i ≠ b) tv (tailB j.bytes) ∧
    (∀ i, F i → i < w.heap.size) ∧ j.half ≤ 1 ∧ j.bytes.length ≤ 64 * hof n ∧ j.seq < 9223372036854775808

section
variable {w w' : World} {F G : Nat → Prop} {dv jv : Value} {n : Nat} {d : D} {j : J}

set_option maxRecDepth 100000 in
theorem jown_kept (h : JOwn w F dv jv n j) (k : Kept G w w') (hd : ∀ i, F i → ¬ G i) : JOwn w' F dv jv n j := by
  obtain ⟨b, tv, h1, h2, h3, h4, h5, h6⟩ := h
  exact ⟨b, tv, h1, h2.kept k (hd b h3), h3, h4.kept k (fun i hi => hd i hi.1), fun i hi => Nat.lt_of_lt_of_le (h5 i hi) k.size, h6⟩

set_option maxRecDepth 100000 in
theorem jown_lt (h : JOwn w F dv jv n j) : ∀ k, F k → k < w.heap.size := by
  obtain ⟨b, tv, h1, h2, h3, h4, h5, h6⟩ := h
  exact h5

set_option maxRecDepth 100000 in
theorem jown_ptr (h : JOwn w F dv jv n j) : ∃ p, jv = .pointer (some p) := by
  obtain ⟨b, tv, h1, -⟩ := h
  exact ⟨_, h1⟩

set_option maxRecDepth 100000 in
theorem jown_mono (h : JOwn w F dv jv n j) (hG : ∀ i, F i → G i) (hlt : ∀ i, G i → i < w.heap.size) : JOwn w G dv jv n j := by
  obtain ⟨b, tv, h1, h2, h3, h4, h5, h6⟩ := h
  exact ⟨b, tv, h1, h2, hG b h3, h4.mono (fun i hi => ⟨hG i hi.1, hi.2⟩), hlt, h6⟩

set_option maxRecDepth 100000 in
theorem jat_same (h : JAt AtL JOwn w F dv jv n d j) : JAt AtL JOwn w (Grow F w w) dv jv n d j ∧ Kept F w w := by
  obtain ⟨F1, F2, h1, h2, h3, h4, h5⟩ := h
  exact ⟨⟨F1, F2, h1, h2, h3, fun k hk => Or.inl (h4 k hk), fun k hk => Or.inl (h5 k hk)⟩, Kept.refl _ _⟩

set_option maxRecDepth 100000 in
theorem jnl_used (h : JAt AtL JOwn w F dv jv n d j) : Calls Tryz.prog 42 #[jv] w fun e w' => e = .returned (.int .i64 (j.bytes.length : Int)) ∧ JAt AtL JOwn w' (Grow F w w') dv jv n d j ∧ Kept F w w' := by
  have fin := Lib.hid (jat_same h)
  obtain ⟨F1, F2, h1, ⟨b, tv, rfl, h2, -⟩, -⟩ := h
  have c1 : w.cell? ⟨b, 3, none⟩ = some (.int .i64 (j.bytes.length : Int)) := h2.at 3
  clear h1 h2
  go_enter Tryz.func42, Tryz.ntmps42
  go_wp2_with fail
  go_ret
  exact ⟨rfl, fin.out⟩

set_option maxRecDepth 100000 in
theorem half_sectors_any (h : AtL w F dv d) (hn : d.S.length = n) : Calls Tryz.prog 94 #[dv] w fun e w' => e = .returned (.int .i64 (hof n : Int)) ∧ w = w' := by
  have HL := Lib.hid (len_same h hn)
  have hq : ((n : Int) - 2).tdiv 2 = (hof n : Int) := by
    by_cases h2 : 2 ≤ n
    · rw [Int.tdiv_eq_ediv_of_nonneg (by omega)]
      unfold hof; omega
    · have : n = 1 := by
        obtain ⟨⟨b, bm, sv, N, M, pv, rfl, h0⟩, -⟩ := h
        have := h0.pos
        omega
      subst this
      rfl
  have hm' : (n : Int) ≤ 1000000 := by
    obtain ⟨⟨b, bm, sv, N, M, pv, rfl, h0⟩, -⟩ := h
    have := h0.few
    omega
  have hh : (hof n : Int) ≤ 1000000 := by unfold hof; omega
  clear h hn
  go_enter Tryz.func94, Tryz.ntmps94
  go_wp2_with (go_at_call 75; with_reducible refine HL.out.mono ?_; rintro e w' ⟨rfl, rfl⟩)
  go_ret
  exact ⟨rfl, rfl⟩

set_option maxRecDepth 100000 in
theorem half_bytes_any (h : AtL w F dv d) (hn : d.S.length = n) : Calls Tryz.prog 66 #[dv] w fun e w' => e = .returned (.int .i64 ((64 * hof n : Nat) : Int)) ∧ w = w' := by
  have HL := Lib.hid (half_sectors_any h hn)
  have hh : (hof n : Int) ≤ 1000000 := by
    obtain ⟨⟨b, bm, sv, N, M, pv, rfl, h0⟩, -⟩ := h
    have := h0.few
    unfold hof; omega
  have hq : (hof n : Int) * 64 = ((64 * hof n : Nat) : Int) := by push_cast; omega
  clear h hn
  go_enter Tryz.func66, Tryz.ntmps66
  go_wp2_with (go_at_call 94; with_reducible refine HL.out.mono ?_; rintro e w' ⟨rfl, rfl⟩)
  go_ret
  exact ⟨rfl, rfl⟩

set_option maxRecDepth 100000 in
theorem jnl_room (h : JAt AtL JOwn w F dv jv n d j) (hn : d.S.length = n) : Calls Tryz.prog 41 #[jv] w fun e w' => e = .returned (.int .i64 ((64 * hof n : Nat) - (j.bytes.length : Int))) ∧ JAt AtL JOwn w' (Grow F w w') dv jv n d j ∧ Kept F w w' := by
  have fin : Hid (∀ w', Below w.heap.size w w' → JAt AtL JOwn w' (Grow F w w') dv jv n d j ∧ Kept F w w') := Lib.hid (fun w' hb => by
    obtain ⟨F1, F2, h1, h2, h3, h4, h5⟩ := h
    exact ⟨⟨F1, F2, atl_below h1 hb, jown_kept h2 (Kept.ofBelow hb (fun _ => False)) (fun _ _ h => h), h3, fun k hk => Or.inl (h4 k hk), fun k hk => Or.inl (h5 k hk)⟩, Kept.ofBelow hb _⟩)
  obtain ⟨F1, F2, h1, ⟨b, tv, rfl, h2, -, -, -, -, hfit, -⟩, -⟩ := h
  have HB := Lib.hid (fun (w' : World) (hb : Below w.heap.size w w') => half_bytes_any (atl_below h1 hb) hn)
  have HC : Hid (∀ w', Below w.heap.size w w' → w'.cell? ⟨b, 0, none⟩ = some dv ∧ w'.cell? ⟨b, 3, none⟩ = some (.int .i64 (j.bytes.length : Int))) := Lib.hid (fun w' hb => ⟨(h2.below hb h2.inHeap).at 0, (h2.below hb h2.inHeap).at 3⟩)
  have hV : ((64 * hof n : Nat) : Int) ≤ 64000000 := by
    obtain ⟨⟨b, bm, sv, N, M, pv, rfl, h0⟩, -⟩ := h1
    have := h0.few
    unfold hof; omega
  have hU : (j.bytes.length : Int) ≤ ((64 * hof n : Nat) : Int) := by omega
  have hU0 : (0 : Int) ≤ (j.bytes.length : Int) := by omega
  clear h1 h2 hfit hn
  generalize ((64 * hof n : Nat) : Int) = V at *
  generalize (j.bytes.length : Int) = u at *
  have hsub : IntKind.i64.wrap (V - u) = V - u := IntWalk.i64_in _ ⟨by omega, by omega⟩
  go_enter Tryz.func41, Tryz.ntmps41
  go_wp2_with fail
  refine wp_region_held_drew (S := (Below w.heap.size w)) (by kernel_rfl) (Below.drew (Below.refl _ _)) (fun hHeld => ?_)
  refine wpAnyH_take (i := 0) (v := ?_) rfl (by kernel_rfl) (by kernel_rfl) (by kernel_rfl) (fun _ _ _ h => h) (Or.inl ⟨by rfl, (by intro w hSw; go_simp; try with_reducible rfl)⟩) (by assumption) ?_
  simp only [Act.put, List.getElem_toArray, List.getElem_cons_zero, List.getElem_cons_succ, List.setIfInBounds_toArray, List.set_cons_zero, List.set_cons_succ]
  refine wpAnyH_take (i := 1) (v := ?_) rfl (by kernel_rfl) (by kernel_rfl) (by kernel_rfl) (fun _ _ _ h => h) (Or.inl ⟨by rfl, (by intro w hSw; go_simp; try with_reducible rfl)⟩) (by assumption) ?_
  simp only [Act.put, List.getElem_toArray, List.getElem_cons_zero, List.getElem_cons_succ, List.setIfInBounds_toArray, List.set_cons_zero, List.set_cons_succ]
  refine wpAnyH_take (i := 2) (v := ?_) rfl (by kernel_rfl) (by kernel_rfl) (by kernel_rfl) (fun _ _ _ h => h) (Or.inl ⟨by rfl, (by intro w hSw; go_simp; try with_reducible rfl)⟩) (by assumption) ?_
  simp only [Act.put, List.getElem_toArray, List.getElem_cons_zero, List.getElem_cons_succ, List.setIfInBounds_toArray, List.set_cons_zero, List.set_cons_succ]
  refine wpAnyH_take (i := 3) (v := ?_) rfl (by kernel_rfl) (by kernel_rfl) (by kernel_rfl) (fun _ _ _ h => h) (Or.inl ⟨by rfl, (by intro w hSw; have c0 := (HC.out w hSw).1; go_simp; try with_reducible rfl)⟩) (by assumption) ?_
  simp only [Act.put, List.getElem_toArray, List.getElem_cons_zero, List.getElem_cons_succ, List.setIfInBounds_toArray, List.set_cons_zero, List.set_cons_succ]
  refine wpAnyH_take (i := 5) (v := ?_) rfl (by kernel_rfl) (by kernel_rfl) (by kernel_rfl) (fun _ _ _ h => h) (Or.inl ⟨by rfl, (by intro w hSw; go_simp; try with_reducible rfl)⟩) (by assumption) ?_
  simp only [Act.put, List.getElem_toArray, List.getElem_cons_zero, List.getElem_cons_succ, List.setIfInBounds_toArray, List.set_cons_zero, List.set_cons_succ]
  refine wpAnyH_take (i := 6) (v := ?_) rfl (by kernel_rfl) (by kernel_rfl) (by kernel_rfl) (fun _ _ _ h => h) (Or.inl ⟨by rfl, (by intro w hSw; go_simp; try with_reducible rfl)⟩) (by assumption) ?_
  simp only [Act.put, List.getElem_toArray, List.getElem_cons_zero, List.getElem_cons_succ, List.setIfInBounds_toArray, List.set_cons_zero, List.set_cons_succ]
  refine wpAnyH_take (i := 7) (v := ?_) rfl (by kernel_rfl) (by kernel_rfl) (by kernel_rfl) (fun _ _ _ h => h) (Or.inl ⟨by rfl, (by intro w hSw; go_simp; try with_reducible rfl)⟩) (by assumption) ?_
  simp only [Act.put, List.getElem_toArray, List.getElem_cons_zero, List.getElem_cons_succ, List.setIfInBounds_toArray, List.set_cons_zero, List.set_cons_succ]
  refine wpAnyH_take (i := 8) (v := ?_) rfl (by kernel_rfl) (by kernel_rfl) (by kernel_rfl) (fun _ _ _ h => h) (Or.inl ⟨by rfl, (by intro w hSw; go_simp; try with_reducible rfl)⟩) (by assumption) ?_
  simp only [Act.put, List.getElem_toArray, List.getElem_cons_zero, List.getElem_cons_succ, List.setIfInBounds_toArray, List.set_cons_zero, List.set_cons_succ]
  refine wpAnyH_take (i := 9) (v := ?_) rfl (by kernel_rfl) (by kernel_rfl) (by kernel_rfl) (fun _ _ _ h => h) (Or.inl ⟨by rfl, (by intro w hSw; have c3 := (HC.out w hSw).2; go_simp; try with_reducible rfl)⟩) (by assumption) ?_
  simp only [Act.put, List.getElem_toArray, List.getElem_cons_zero, List.getElem_cons_succ, List.setIfInBounds_toArray, List.set_cons_zero, List.set_cons_succ]
  refine wpAnyH_ready (rs := [4]) (by kernel_rfl) (by simp) ?_
  refine AllReadyH.cons rfl (fun K hK => ?_) AllReadyH.nil
  go_simp
  go_at_call 66
  refine (HB.out _ hHeld).mono ?_
  rintro e w1 ⟨rfl, rfl⟩
  refine hK.out _ _ hHeld (fun hHeld => ?_)
  clear hK K
  refine wpAnyH_take (i := 10) (v := ?_) rfl (by kernel_rfl) (by kernel_rfl) (by kernel_rfl) (fun _ _ _ h => h) (Or.inl ⟨by rfl, (by intro w hSw; go_simp; try with_reducible rfl)⟩) (by assumption) ?_
  simp only [Act.put, List.getElem_toArray, List.getElem_cons_zero, List.getElem_cons_succ, List.setIfInBounds_toArray, List.set_cons_zero, List.set_cons_succ]
  refine wpAnyH_take (i := 11) (v := ?_) rfl (by kernel_rfl) (by kernel_rfl) (by kernel_rfl) (fun _ _ _ h => h) (Or.inl ⟨by rfl, (by intro w hSw; go_simp; try with_reducible rfl)⟩) (by assumption) ?_
  simp only [Act.put, List.getElem_toArray, List.getElem_cons_zero, List.getElem_cons_succ, List.setIfInBounds_toArray, List.set_cons_zero, List.set_cons_succ]
  refine wpAnyH_done (by kernel_rfl) ?_ _
  have Hh := Lib.hid hHeld
  clear hHeld
  go_wp2_with fail
  go_ret
  exact ⟨rfl, fin.out _ Hh.out⟩

set_option maxRecDepth 100000 in
theorem none_used (w : World) : Calls Tryz.prog 42 #[.pointer none] w fun e w' => e = .returned (.int .i64 0) ∧ Below w.heap.size w w' := by
  go_enter Tryz.func42, Tryz.ntmps42
  go_wp2_with fail
  go_ret
  exact ⟨rfl, Below.refl _ _⟩

set_option maxRecDepth 100000 in
theorem none_room (w : World) : Calls Tryz.prog 41 #[.pointer none] w fun e w' => e = .returned (.int .i64 0) ∧ Below w.heap.size w w' := by
  go_enter Tryz.func41, Tryz.ntmps41
  go_wp2_with fail
  go_ret
  exact ⟨rfl, Below.refl _ _⟩

def readyE (j : J) : Int := if j.broken = true then 16 else if j.seq = 9223372036854775807 then 15 else 0

set_option maxRecDepth 100000 in
theorem ready_none (w : World) : Calls Tryz.prog 54 #[.pointer none] w fun e w' => e = .returned (.int .i64 1) ∧ w = w' := by
  go_enter Tryz.func54, Tryz.ntmps54
  go_wp2_with fail
  go_ret
  exact ⟨rfl, rfl⟩

set_option maxRecDepth 100000 in
theorem ready_any {b : Nat} {tv : Value} (h : Row w b 106 (jcells dv j.seq j.half j.bytes.length tv j.broken)) : Calls Tryz.prog 54 #[.pointer (some ⟨b, 0, none⟩)] w fun e w' => e = .returned (.int .i64 (readyE j)) ∧ w = w' := by
  have c1 : w.cell? ⟨b, 1, none⟩ = some (.int .i64 (j.seq : Int)) := h.at 1
  have c5 : w.cell? ⟨b, 5, none⟩ = some (.bool j.broken) := h.at 5
  clear h
  unfold readyE
  by_cases hb : j.broken = true
  · rw [if_pos hb]
    rw [hb] at c5
    clear hb
    go_enter Tryz.func54, Tryz.ntmps54
    go_wp2_with fail
    go_ret
    exact ⟨rfl, rfl⟩
  · rw [if_neg hb]
    have hb' : j.broken = false := by simpa using hb
    rw [hb'] at c5
    clear hb hb'
    by_cases hs : j.seq = 9223372036854775807
    · rw [if_pos hs]
      rw [hs] at c1
      clear hs
      go_enter Tryz.func54, Tryz.ntmps54
      go_wp2_with fail
      go_ret
      exact ⟨rfl, rfl⟩
    · rw [if_neg hs]
      have hb : ((j.seq : Int) == 9223372036854775807) = false := beq_eq_false_iff_ne.2 (by omega)
      clear hs
      go_enter Tryz.func54, Tryz.ntmps54
      go_wp2_with fail
      go_ret
      exact ⟨rfl, rfl⟩
end
end Go.Proofs.YtbfjageaheijbaaGreat
