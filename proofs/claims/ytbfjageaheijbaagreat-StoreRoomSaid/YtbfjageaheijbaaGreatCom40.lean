/- The landed store: Format, Open. -/
import Derived.Test.YtbfjageaheijbaaGreatCom39
import Derived.Test.YtbfjageaheijbaaGreatCom12
import Derived.Test.YtbfjageaheijbaaGreatCom7
import Derived.RegionTactic
set_option linter.unusedSimpArgs false
set_option linter.unusedVariables false
namespace Go.Proofs.YtbfjageaheijbaaGreat
open Go.RowKit Dsk Jnl

/-! ### How much there can be -/
set_option maxRecDepth 100000 in
theorem halfB_len {X : Nat → ByteArray} (h : ∀ k, (X k).data.toList.length ≤ 64) (base : Nat) : ∀ m, (halfB X base m).length ≤ 64 * m
  | 0 => by simp [halfB]
  | m + 1 => by
    have h1 := halfB_len h base m
    have h2 := h (base + m)
    unfold halfB
    rw [List.length_append]
    omega

set_option maxRecDepth 100000 in
theorem opens_len {n : Nat} {X : Nat → ByteArray} {j : J} {l : List (List UInt8)} (h : ∀ k, (X k).data.toList.length ≤ 64) (ho : opens n X = (0, some j, l)) : (Frm.all l).length ≤ 64 * hof n := by
  unfold opens at ho
  cases hc : cur ((n - 2) / 2) (X 0).data.toList (X 1).data.toList with
  | none => rw [hc] at ho; simp at ho
  | some a =>
    obtain ⟨q, half, used⟩ := a
    rw [hc] at ho
    simp only at ho
    split at ho
    · rename_i hr
      have e : l = (Frm.read ((halfB X (2 + half * ((n - 2) / 2)) ((n - 2) / 2)).take used)).1 := by
        have := congrArg (fun x => x.2.2) ho
        exact this.symm
      have h1 := Frm.read_only _ l (by rw [← hr, e])
      have h2 := halfB_len h (2 + half * ((n - 2) / 2)) ((n - 2) / 2)
      rw [h1, List.length_take]
      unfold hof
      omega
    · simp at ho

set_option maxRecDepth 100000 in
theorem now_len {n : Nat} {d : D} {N : Nat} (h : Sound n d N) (k : Nat) : (Jnl.now d k).data.toList.length ≤ 64 := by
  by_cases hk : k < n
  · rw [h.full k hk]
    exact Nat.le_refl _
  · have e : d.at k = [] := by
      unfold D.at
      rw [List.getD_eq_getElem?_getD, List.getElem?_eq_none (by have := h.shape.len; omega)]
      rfl
    unfold Jnl.now
    rw [e]
    decide

def tot (l : List (List UInt8)) : Nat := (l.map List.length).sum
set_option maxRecDepth 100000 in
theorem tot_cons (t : List UInt8) (l : List (List UInt8)) : tot (t :: l) = t.length + tot l := by simp [tot]
set_option maxRecDepth 100000 in
theorem tot_le (l : List (List UInt8)) : tot l ≤ (Frm.all l).length := by
  induction l with
  | nil => simp [tot]
  | cons t l ih =>
    rw [tot_cons, Frm.all_cons, List.length_append, Frm.one_len]
    omega
set_option maxRecDepth 100000 in
theorem tot_mem {l : List (List UInt8)} {t : List UInt8} (h : t ∈ l) : t.length ≤ tot l := by
  induction l with
  | nil => cases h
  | cons x l ih =>
    rw [tot_cons]
    rcases List.mem_cons.1 h with e | e
    · rw [e]; omega
    · have := ih e; omega
set_option maxRecDepth 100000 in
theorem tot_take (l : List (List UInt8)) (k : Nat) : tot (l.take k) ≤ tot l := by
  have e : tot l = tot (l.take k) + tot (l.drop k) := by
    unfold tot
    rw [← List.sum_append_nat, ← List.map_append, List.take_append_drop]
  omega

set_option maxRecDepth 100000 in
theorem parseF_len : ∀ (f : Nat) (s : List UInt8) (cs : List Sto.Ch), Sto.parseF f s = some cs → cs.length ≤ s.length
  | 0, s, cs, h => by
    unfold Sto.parseF at h
    split at h
    · injection h with h; subst h; simp
    · cases h
  | f + 1, s, cs, h => by
    unfold Sto.parseF at h
    split at h
    · injection h with h; subst h; simp
    · cases ho : Sto.one s with
      | none => rw [ho] at h; cases h
      | some x =>
        rw [ho] at h
        have h : (Sto.parseF f (s.drop x.2)).map (x.1 :: ·) = some cs := h
        cases hp : Sto.parseF f (s.drop x.2) with
        | none => rw [hp] at h; cases h
        | some m =>
          rw [hp] at h
          have e : cs = x.1 :: m := by injection h with h; exact h.symm
          have h1 := parseF_len f _ _ hp
          have h2 := Sto.one_fits ho
          rw [List.length_drop] at h1
          rw [e, List.length_cons]
          omega

set_option maxRecDepth 100000 in
theorem parse_len {s : List UInt8} {cs : List Sto.Ch} (h : Sto.parse s = some cs) : cs.length ≤ s.length := by
  unfold Sto.parse at h
  split at h
  · cases h
  · exact parseF_len _ _ _ h

set_option maxRecDepth 100000 in
theorem run_len : ∀ (rs : List (List UInt8)) (l m : List Sto.Pr), Sto.run l rs = some m → m.length ≤ l.length + tot rs
  | [], l, m, h => by
    injection h with h
    subst h
    simp [tot]
  | r :: rs, l, m, h => by
    have h : (Sto.parse r).bind (fun cs => Sto.run (Sto.after l cs) rs) = some m := h
    cases hp : Sto.parse r with
    | none => rw [hp] at h; cases h
    | some cs =>
      rw [hp] at h
      have h1 := run_len rs (Sto.after l cs) m h
      have h2 := Sto.after_len l cs
      have h3 := parse_len hp
      rw [tot_cons]
      omega

set_option maxRecDepth 100000 in
theorem run_snoc {rs : List (List UInt8)} {k : Nat} {r : List UInt8} (hr : rs[k]? = some r) {v : List Sto.Pr} (h : Sto.run [] (rs.take k) = some v) : Sto.run [] (rs.take (k + 1)) = (Sto.parse r).map fun cs => Sto.after v cs := by
  obtain ⟨hl, he⟩ := List.getElem?_eq_some_iff.1 hr
  rw [List.take_succ_eq_append_getElem hl, he, Sto.run_append, h]
  show (Sto.parse r).bind (fun cs => some (Sto.after v cs)) = _
  cases Sto.parse r <;> rfl

set_option maxRecDepth 100000 in
theorem run_stop {rs : List (List UInt8)} {k : Nat} {r : List UInt8} (hr : rs[k]? = some r) {v : List Sto.Pr} (h : Sto.run [] (rs.take k) = some v) (hp : Sto.parse r = none) : Sto.run [] rs = none := by
  have h1 := run_snoc hr h
  rw [hp] at h1
  have e : rs = rs.take (k + 1) ++ rs.drop (k + 1) := (List.take_append_drop _ _).symm
  rw [e, Sto.run_append, h1]
  rfl

section
variable {w w' : World} {F G : Nat → Prop} {dv sv jv : Value} {n : Nat} {d : D} {N : Nat}

set_option maxRecDepth 100000 in
theorem sto_format (h : AtL w F dv d) (hs : Sound n d N) (hN : N + 3 ≤ 100000) : Calls Tryz.prog 8 #[dv] w fun e w' => e = .returned (.int .i64 (Jnl.format d).1) ∧ Doing AtL w F dv (Jnl.format d).2 w' := by
  have HJ := Lib.hid (jnl_format h hs hN)
  clear h hs
  generalize Jnl.format d = R at *
  go_enter Tryz.func8, Tryz.ntmps8
  go_wp2_with (go_at_call 33; refine HJ.out.mono ?_; rintro e w1 ⟨rfl, h1⟩; have H1 := Lib.hid h1; clear h1)
  go_ret
  exact ⟨rfl, H1.out⟩

set_option maxRecDepth 100000 in
theorem sto_wrong (h : AtL w F dv d) {q : Int} (h1 : -9223372036854775808 ≤ q) (h2 : q ≤ 9223372036854775807) (hq : q < 0 ∨ 1048576 < q) :
    Calls Tryz.prog 10 #[dv, .int .i64 q] w fun e w' => e = .returned (.tuple #[.pointer none, .int .i64 2]) ∧ Doing AtL w F dv d w' := by
  have H := Lib.hid (doing_refl h)
  have hf : (decide (q < 0) = true) ∨ (decide (q < 0) = false ∧ decide ((1048576 : Int) < q) = true) := by
    by_cases hn : q < 0
    · left; simpa using hn
    · right
      constructor
      · simpa using hn
      · simp; omega
  clear h hq
  rcases hf with g1 | ⟨g1, g2⟩
  all_goals
    go_enter Tryz.func10, Tryz.ntmps10
    go_wp2_with fail
    go_ret2
    exact ⟨rfl, H.out⟩
end
end Go.Proofs.YtbfjageaheijbaaGreat
/- The landed store: Open of a journal that holds. -/
set_option linter.unusedSimpArgs false
set_option linter.unusedVariables false
namespace Go.Proofs.YtbfjageaheijbaaGreat
open Go.RowKit Dsk Jnl

/-- What Open answers by what the records are. -/
def OpPost (w : World) (F : Nat → Prop) (dv : Value) (n : Nat) (d : D) (j : J) (q : Int) (o : Option (List Sto.Pr)) (e : Ending) (w' : World) : Prop :=
  (∀ vals, o = some vals → ∃ sv, e = .returned (.tuple #[sv, .int .i64 0]) ∧ SAt AtL SOwn w' (Grow F w w') dv sv n d ⟨j, vals, q, false⟩ ∧ Kept F w w') ∧ (o = none → e = .returned (.tuple #[.pointer none, .int .i64 6]) ∧ Doing AtL w F dv d w')

section
variable {w w' : World} {F G : Nat → Prop} {dv sv : Value} {n : Nat} {d : D} {N : Nat} {j : J} {recs : List (List UInt8)} {q : Int}

/-- While the records are read. -/
structure OpAt (recs : List (List UInt8)) (W2 : World) (B M k : Nat) (vals : List Sto.Pr) (wr : World) : Prop where
  run : Sto.run [] (recs.take k) = some vals
  at_ : ValsAt wr B M vals
  kept : Kept (fun i => i = B ∨ i = M) W2 wr

set_option maxRecDepth 100000 in
set_option maxHeartbeats 6400000 in
theorem sto_open (h : AtL w F dv d) (hs : Sound n d N) (hN : N ≤ 100000) (hd : d.down = false) (ho : opens n (Jnl.now d) = (0, some j, recs)) (h0 : 0 ≤ q) (h1 : q ≤ 1048576) :
    Calls Tryz.prog 10 #[dv, .int .i64 q] w (OpPost w F dv n d j q (Sto.run [] recs)) := by
  have HJ := Lib.hid (jnl_opened h hs hN hd ho)
  have htot := opens_len (now_len hs) ho
  have htt := tot_le recs
  have hfew := atl_few h
  have hnn := hs.shape.len
  have hof9 : 64 * hof n ≤ 1000000 := by unfold hof; omega
  have hlen : recs.length ≤ (Frm.all recs).length := by
    clear htot htt ho HJ
    induction recs with
    | nil => simp
    | cons t l ih => rw [Frm.all_cons, List.length_append, Frm.one_len, List.length_cons]; omega
  have hL : (recs.length : Int) ≤ 1000000 := by omega
  have Htot := Lib.hid (show tot recs ≤ 1000000 by omega)
  have Hlt := Lib.hid h.2
  obtain ⟨Q, hQ⟩ : ∃ Q, Q = OpPost w F dv n d j q (Sto.run [] recs) := ⟨_, rfl⟩
  rw [← hQ]
  have HQ := Lib.hid hQ
  have g1 : decide (q < 0) = false := by simp; omega
  have g2 : decide ((1048576 : Int) < q) = false := by simp; omega
  clear hQ h hs hN hd ho htot htt hfew hnn hof9 hlen
  go_enter Tryz.func10, Tryz.ntmps10
  go_wp2_with fail
  refine HJ.out.mono ?_
  rintro e w1 ⟨jv, lv, GG, HH, rfl, hjat, hcl, hGH, hGs, hHs, hk1⟩
  obtain ⟨A, cap, hlv, hcap, hat⟩ := hcl
  rw [texts_len] at hlv hcap hat
  subst hlv
  obtain ⟨pj, hjv⟩ : ∃ p, jv = .pointer (some p) := by
    obtain ⟨F1, F2, -, g2, -⟩ := hjat
    exact jown_ptr g2
  subst hjv
  have HJat := Lib.hid (jat_lt hjat)
  have Hat := Lib.hid hat
  have HGs := Lib.hid hGs
  have Hk1 := Lib.hid hk1
  have hV2 : ValsAt ((w1.alloc (.map #[] 0)).alloc (.cells #[.map (some w1.heap.size), .int .i64 0, .int .i64 0] 76)) (w1.heap.size + 1) w1.heap.size [] := by
    have hr := Row.made (w1.alloc (.map #[] 0)) 76 #[.map (some w1.heap.size), .int .i64 0, .int .i64 0]
    rw [show (w1.alloc (.map #[] 0)).heap.size = w1.heap.size + 1 by simp] at hr
    exact ⟨hr, (MapAt.made w1).below ((Below.refl (w1.alloc (.map #[] 0)).heap.size (w1.alloc (.map #[] 0))).alloc (Nat.le_refl _) _) (by simp)⟩
  have hb2 : Below w1.heap.size w1 ((w1.alloc (.map #[] 0)).alloc (.cells #[.map (some w1.heap.size), .int .i64 0, .int .i64 0] 76)) := ((Below.refl _ _).alloc (Nat.le_refl _) _).alloc (by simp) _
  have HV2 := Lib.hid hV2
  have Hb2 := Lib.hid hb2
  have hmm : ∀ (P : Program), True := fun _ => trivial
  clear hjat hat hGH hGs hHs hk1 hV2 hb2 hcap HJ
  have hmk := @run_makeMap Tryz.prog
  go_wp2_with fail
  have hz2 : ((w1.alloc (.map #[] 0)).alloc (.cells #[.map (some w1.heap.size), .int .i64 0, .int .i64 0] 76)).heap.size = w1.heap.size + 2 := by simp
  generalize (w1.alloc (.map #[] 0)).alloc (.cells #[.map (some w1.heap.size), .int .i64 0, .int .i64 0] 76) = W2 at *
  have Hz2 := Lib.hid hz2
  clear hz2 hmk hmm
  go_loopw [33] (fun i wr => ∃ (k : Nat) (vals : List Sto.Pr), k ≤ recs.length ∧ i = .int .i64 k ∧ OpAt recs W2 (w1.heap.size + 1) w1.heap.size k vals wr) (fun i _ => recs.length - (intOf i).toNat)
  case atStart => exact ⟨0, [], Nat.zero_le _, rfl, rfl, HV2.out, Kept.refl _ _⟩
  case round =>
    obtain ⟨k, vals, hk, rfl, hat⟩ := hrel
    have HAt := Lib.hid hat
    clear hat
    by_cases hlt : k < recs.length
    · obtain ⟨r, hr⟩ : ∃ r, recs[k]? = some r := ⟨recs[k], List.getElem?_eq_getElem hlt⟩
      obtain ⟨gb, go, e, hin, hgl, hcc⟩ := Hat.out (by omega)
      subst e
      have hcell : wr.cell? ⟨gb, go + k, none⟩ = some (.string (mk r)) := by
        have c1 : w1.cell? ⟨gb, go + k, none⟩ = some (.string (mk r)) := hcc k _ (by unfold texts; rw [List.getElem?_map, hr]; rfl)
        have c2 : W2.cell? ⟨gb, go + k, none⟩ = some (.string (mk r)) := (Hb2.out.cell (p := ⟨gb, go + k, none⟩) hgl).trans c1
        exact (HAt.out.kept.cell (p := ⟨gb, go + k, none⟩) (by show gb < W2.heap.size; have := Hb2.out.size; omega) (fun e => by rcases e with e | e <;> (have e : gb = _ := e; omega))).trans c2
      have hrl := tot_mem (List.mem_of_getElem? hr)
      have HRd := Lib.hid (sto_read (mk r) (by rw [mk_len]; have := Htot.out; omega) wr)
      rw [mk_data] at HRd
      have Hr := Lib.hid hr
      clear hcc hin hgl hr
      cases hp : Sto.parse r with
      | none =>
        rw [hp] at HRd
        have hstop : Hid (Sto.run [] recs = none) := Lib.hid (run_stop Hr.out HAt.out.run hp)
        have he6 : ((parseE none : Int) != 0) = true := rfl
        have he7 : parseE none = 6 := rfl
        rw [he7] at HRd he6
        clear hp he7
        go_wp2_with (go_at_call 34; refine HRd.out.mono ?_; rintro e w3 ⟨⟨v3, rfl, hc3⟩, hb3⟩; have Hb3 := Lib.hid hb3; clear hc3 hb3)
        have hend : Doing AtL w F dv d w3 := by
          obtain ⟨G1, G2, a1, a2, a3, a4, a5⟩ := HJat.out
          have hz := Hz2.out
          have s1 := Hb2.out.size
          have s2 := HAt.out.kept.size
          have s3 := Hb3.out.size
          have s0 := Hk1.out.size
          have b1 := atl_below (atl_below a1 Hb2.out) (Below.refl _ _)
          have b2 := atl_kept b1 HAt.out.kept (fun i hi e => by have := (a4 i hi).2; rcases e with e | e <;> omega)
          have b3 := atl_below b2 Hb3.out
          refine ⟨atl_mono b3 (fun i hi => ?_) (fun i hi => ?_), (Hk1.out.trans ((Kept.ofBelow Hb2.out F).trans (HAt.out.kept.trans (Kept.ofBelow Hb3.out _) (fun _ _ h => h)) (fun i hi e => by rcases e with e | e <;> omega)) (fun _ _ h => h))⟩
          · rcases HGs.out i (a4 i hi).1 with hi | hi
            · exact Or.inl hi
            · exact Or.inr (by omega)
          · rcases hi with hi | hi
            · have := Hlt.out i hi; omega
            · omega
        rw [HQ.out, hstop.out]
        exact ⟨fun vals h => (by cases h), fun _ => ⟨rfl, hend⟩⟩
      | some cs =>
        rw [hp] at HRd
        have hsn : Hid (Sto.run [] (recs.take (k + 1)) = some (Sto.after vals cs)) := Lib.hid (by rw [run_snoc Hr.out HAt.out.run, hp]; rfl)
        have he7 : parseE (some cs) = 0 := rfl
        rw [he7] at HRd
        have hfit := Sto.run_fit HAt.out.run (List.Pairwise.nil) (fun p hp => by cases hp)
        have hvl := run_len _ _ _ HAt.out.run
        have htk := tot_take recs k
        have hcl2 := parse_len hp
        have HDo := Lib.hid (fun (W : World) (cv : Value) (hb : Below wr.heap.size wr W) (hc : Changes W (NewIn wr W) cv cs) => sto_do (HAt.out.at_.below hb HAt.out.at_.lt.1 HAt.out.at_.lt.2) hfit.1 hfit.2 hc (fun i hi e => by have := HAt.out.at_.lt; have := hi.1; rcases e with e | e <;> omega) (Sto.parse_may hp) (by have := Htot.out; simp only [List.length_nil] at hvl; omega))
        clear hp he7 hfit hvl htk hcl2
        go_wp2_with (first
          | (go_at_call 34; refine HRd.out.mono ?_; rintro e w3 ⟨⟨v3, rfl, hc3⟩, hb3⟩; obtain ⟨A3, c3, rfl, -⟩ := hc3.slice; have Hb3 := Lib.hid hb3; have Hc3 := Lib.hid hc3; clear hc3 hb3)
          | (go_at_call 35; refine (HDo.out w3 _ Hb3.out Hc3.out).mono ?_; rintro e w4 ⟨rfl, hv4, hk4⟩; have Hv4 := Lib.hid hv4; have Hk4 := Lib.hid (HAt.out.kept.trans ((Kept.ofBelow Hb3.out _).trans hk4 (fun _ _ h => h)) (fun _ _ h => h)); clear hv4 hk4))
        go_roundw
        case rel => exact ⟨k + 1, Sto.after vals cs, by omega, by go_num, hsn.out, Hv4.out, Hk4.out⟩
        case measure => simp [intOf]; omega
    · obtain rfl : k = recs.length := by omega
      have hrun := HAt.out.run
      rw [List.take_length] at hrun
      have Hrun := Lib.hid hrun
      have c0 : wr.cell? ⟨w1.heap.size + 1, 0, none⟩ = some (.map (some w1.heap.size)) := HAt.out.at_.row.at 0
      have c1 : wr.cell? ⟨w1.heap.size + 1, 1, none⟩ = some (.int .i64 (Sto.bytes vals : Int)) := HAt.out.at_.row.at 1
      have c2 : wr.cell? ⟨w1.heap.size + 1, 2, none⟩ = some (.int .i64 (Sto.whole vals : Int)) := HAt.out.at_.row.at 2
      have hend : SAt AtL SOwn (wr.alloc (.cells #[.pointer (some pj), .map (some w1.heap.size), .int .i64 (Sto.bytes vals : Int), .int .i64 (Sto.whole vals : Int), .int .i64 q, .bool false] 81)) (Grow F w (wr.alloc (.cells #[.pointer (some pj), .map (some w1.heap.size), .int .i64 (Sto.bytes vals : Int), .int .i64 (Sto.whole vals : Int), .int .i64 q, .bool false] 81))) dv (.pointer (some ⟨wr.heap.size, 0, none⟩)) n d ⟨j, vals, q, false⟩ ∧
          Kept F w (wr.alloc (.cells #[.pointer (some pj), .map (some w1.heap.size), .int .i64 (Sto.bytes vals : Int), .int .i64 (Sto.whole vals : Int), .int .i64 q, .bool false] 81)) := by
        have hz := Hz2.out
        have s1 := Hb2.out.size
        have s2 := HAt.out.kept.size
        have s0 := Hk1.out.size
        have b2 := jat_kept (jat_under HJat.out Hb2.out) HAt.out.kept (fun i hi e => by have := hi.2; rcases e with e | e <;> omega)
        have hbn : Below wr.heap.size wr (wr.alloc (.cells #[.pointer (some pj), .map (some w1.heap.size), .int .i64 (Sto.bytes vals : Int), .int .i64 (Sto.whole vals : Int), .int .i64 q, .bool false] 81)) := (Below.refl _ _).alloc (Nat.le_refl _) _
        have s4 : (wr.alloc (.cells #[.pointer (some pj), .map (some w1.heap.size), .int .i64 (Sto.bytes vals : Int), .int .i64 (Sto.whole vals : Int), .int .i64 q, .bool false] 81)).heap.size = wr.heap.size + 1 := by simp
        refine ⟨sat_of (m := w1.heap.size) (jat_under b2 hbn) (fun i hi => by have := hi.2; omega) (Row.made wr _ _) (HAt.out.at_.map.below hbn HAt.out.at_.map.lt) (fun e => by have := e.2; omega) (fun e => by have := e.2; omega) (fun i hi => ?_) (Or.inr ⟨by omega, by omega⟩) (Or.inr ⟨by omega, by omega⟩),
          Hk1.out.trans ((Kept.ofBelow Hb2.out F).trans (HAt.out.kept.trans (Kept.ofBelow hbn _) (fun _ _ h => h)) (fun i hi e => by rcases e with e | e <;> omega)) (fun _ _ h => h)⟩
        rcases HGs.out i hi.1 with hi | hi
        · exact Or.inl hi
        · exact Or.inr (by omega)
      have Hend := Lib.hid hend
      clear hrun hend
      go_wp2_with fail
      rw [HQ.out, Hrun.out]
      exact ⟨fun v h => (by injection h with h; subst h; exact ⟨_, rfl, Hend.out.1, Hend.out.2⟩), fun h => (by cases h)⟩
end
end Go.Proofs.YtbfjageaheijbaaGreat
/- The package store as it landed (97d9518) answers as its contracts say. -/
set_option linter.unusedSimpArgs false
set_option linter.unusedVariables false
namespace Go.Proofs.YtbfjageaheijbaaGreat
open Go.RowKit Dsk Jnl

set_option maxRecDepth 100000 in
theorem store_ok : StoreOk AtL SOwn where
  kept := sown_kept
  lt := sown_lt
  ptr := sown_ptr
  format := fun h hs hN => sto_format h hs hN
  opened := fun h hs hN hd ho hr h0 h1 => (sto_open h hs hN hd ho h0 h1).mono fun e w' hh => hh.1 _ hr
  form := fun h hs hN hd ho hr h0 h1 => (sto_open h hs hN hd ho h0 h1).mono fun e w' hh => hh.2 hr
  wrong := fun h _ _ _ h1 h2 hq => sto_wrong h h1 h2 hq
  check := fun h hb hg hc _ hl => sto_check h hb hg hc hl
  doing := fun h hb hj hg hs hh hN hc hG hl => sto_doing h hb hj hg hs hh hN hc hG hl
  get := fun h _ k hk => sto_get h k hk
  keys := fun h hg p _ => sto_keys h hg p
  bytes := fun h _ => sto_bytes h
  quota := sto_quota
  len := fun h _ => sto_len h
  broken := sto_broken
  none_get := sto_none_get
  none_doing := sto_none_doing
  none_check := sto_none_check
  none_bytes := sto_none_bytes
  none_quota := sto_none_quota
  none_len := sto_none_len
  none_keys := sto_none_keys
  none_broken := sto_none_broken
end Go.Proofs.YtbfjageaheijbaaGreat
/- The small functions of layer 6's laws: May, light, check, Whole, full. -/
namespace Go.Proofs.YtbfjageaheijbaaGreat
open Go.RowKit

set_option maxRecDepth 100000 in
theorem may_cases (c : Sto.Ch) : (¬ 1 ≤ c.key.length ∧ ¬ Sto.May c) ∨ (1 ≤ c.key.length ∧ ¬ c.key.length ≤ 32 ∧ ¬ Sto.May c) ∨ (1 ≤ c.key.length ∧ c.key.length ≤ 32 ∧ ¬ c.val.length ≤ 4096 ∧ ¬ Sto.May c) ∨
    (1 ≤ c.key.length ∧ c.key.length ≤ 32 ∧ c.val.length ≤ 4096 ∧ c.gone = false ∧ Sto.May c) ∨ (1 ≤ c.key.length ∧ c.key.length ≤ 32 ∧ c.val.length ≤ 4096 ∧ c.gone = true ∧ c.val = [] ∧ Sto.May c) ∨
    (1 ≤ c.key.length ∧ c.key.length ≤ 32 ∧ c.val.length ≤ 4096 ∧ c.gone = true ∧ c.val ≠ [] ∧ ¬ Sto.May c) := by
  by_cases h1 : 1 ≤ c.key.length
  · by_cases h2 : c.key.length ≤ 32
    · by_cases h3 : c.val.length ≤ 4096
      · cases h4 : c.gone
        · exact Or.inr (Or.inr (Or.inr (Or.inl ⟨h1, h2, h3, rfl, h1, h2, h3, fun e => by rw [h4] at e; cases e⟩)))
        · by_cases h5 : c.val = []
          · exact Or.inr (Or.inr (Or.inr (Or.inr (Or.inl ⟨h1, h2, h3, rfl, h5, h1, h2, h3, fun _ => h5⟩))))
          · exact Or.inr (Or.inr (Or.inr (Or.inr (Or.inr ⟨h1, h2, h3, rfl, h5, fun m => h5 (m.2.2.2 h4)⟩))))
      · exact Or.inr (Or.inr (Or.inl ⟨h1, h2, h3, fun m => h3 m.2.2.1⟩))
    · exact Or.inr (Or.inl ⟨h1, h2, fun m => h2 m.2.1⟩)
  · exact Or.inl ⟨h1, fun m => h1 m.1⟩

set_option maxRecDepth 100000 in
set_option maxHeartbeats 1600000 in
theorem may_any (c : Sto.Ch) (w : World) : Calls Tryz.prog 36 #[.agg #[.string (mk c.key), .string (mk c.val), .bool c.gone]] w fun e w' => e = .returned (.bool (decide (Sto.May c))) ∧ Below w.heap.size w w' := by
  have k1 : (mk c.key).size = c.key.length := mk_len _
  have k2 : (mk c.val).size = c.val.length := mk_len _
  have hcase : ∃ M, Hid (decide (Sto.May c) = M) ∧ ((decide ((1 : Int) ≤ ((mk c.key).size : Int)) = false ∧ M = false) ∨ (decide ((1 : Int) ≤ ((mk c.key).size : Int)) = true ∧ decide (((mk c.key).size : Int) ≤ 32) = false ∧ M = false) ∨
      (decide ((1 : Int) ≤ ((mk c.key).size : Int)) = true ∧ decide (((mk c.key).size : Int) ≤ 32) = true ∧ decide (((mk c.val).size : Int) ≤ 4096) = false ∧ M = false) ∨
      (decide ((1 : Int) ≤ ((mk c.key).size : Int)) = true ∧ decide (((mk c.key).size : Int) ≤ 32) = true ∧ decide (((mk c.val).size : Int) ≤ 4096) = true ∧ c.gone = false ∧ M = true) ∨
      (decide ((1 : Int) ≤ ((mk c.key).size : Int)) = true ∧ decide (((mk c.key).size : Int) ≤ 32) = true ∧ decide (((mk c.val).size : Int) ≤ 4096) = true ∧ c.gone = true ∧ ((mk c.val).toList != []) = false ∧ (mk c.val).toList.isEmpty = true ∧ M = true) ∨
      (decide ((1 : Int) ≤ ((mk c.key).size : Int)) = true ∧ decide (((mk c.key).size : Int) ≤ 32) = true ∧ decide (((mk c.val).size : Int) ≤ 4096) = true ∧ c.gone = true ∧ ((mk c.val).toList != []) = true ∧ (mk c.val).toList.isEmpty = false ∧ M = false)) := by
    rw [k1, k2, Lib.toList_data, mk_data]
    rcases may_cases c with ⟨h1, h⟩ | ⟨h1, h2, h⟩ | ⟨h1, h2, h3, h⟩ | ⟨h1, h2, h3, h4, h⟩ | ⟨h1, h2, h3, h4, h5, h⟩ | ⟨h1, h2, h3, h4, h5, h⟩
    · exact ⟨false, Lib.hid (decide_eq_false h), Or.inl ⟨decide_eq_false (by omega), rfl⟩⟩
    · exact ⟨false, Lib.hid (decide_eq_false h), Or.inr (Or.inl ⟨decide_eq_true (by omega), decide_eq_false (by omega), rfl⟩)⟩
    · exact ⟨false, Lib.hid (decide_eq_false h), Or.inr (Or.inr (Or.inl ⟨decide_eq_true (by omega), decide_eq_true (by omega), decide_eq_false (by omega), rfl⟩))⟩
    · exact ⟨true, Lib.hid (decide_eq_true h), Or.inr (Or.inr (Or.inr (Or.inl ⟨decide_eq_true (by omega), decide_eq_true (by omega), decide_eq_true (by omega), h4, rfl⟩)))⟩
    · exact ⟨true, Lib.hid (decide_eq_true h), Or.inr (Or.inr (Or.inr (Or.inr (Or.inl ⟨decide_eq_true (by omega), decide_eq_true (by omega), decide_eq_true (by omega), h4, by rw [h5]; rfl, by rw [h5]; rfl, rfl⟩))))⟩
    · exact ⟨false, Lib.hid (decide_eq_false h), Or.inr (Or.inr (Or.inr (Or.inr (Or.inr ⟨decide_eq_true (by omega), decide_eq_true (by omega), decide_eq_true (by omega), h4, by rw [bne_iff_ne]; exact h5, by rw [List.isEmpty_eq_false_iff]; exact h5, rfl⟩))))⟩
  obtain ⟨M, HM, hcase⟩ := hcase
  clear k1 k2
  generalize mk c.key = x1 at *
  generalize mk c.val = x2 at *
  rcases hcase with ⟨h1, rfl⟩ | ⟨h1, h2, rfl⟩ | ⟨h1, h2, h3, rfl⟩ | ⟨h1, h2, h3, h4, rfl⟩ | ⟨h1, h2, h3, h4, h5, h6, rfl⟩ | ⟨h1, h2, h3, h4, h5, h6, rfl⟩
  all_goals
    first | rw [h4] | skip
    generalize c.gone = gg at *
    go_enter Tryz.func36, Tryz.ntmps36
    go_wp2_with fail
    go_ret
    exact ⟨by rw [HM.out]; rfl, (Below.refl _ _).alloc (Nat.le_refl _) _⟩

/-- Changes that are not far too many, nor too long. -/
def LightC (cs : List Sto.Ch) : Prop := (∀ c ∈ cs, c.val.length ≤ 5000 ∧ c.key.length ≤ 100) ∧ cs.length ≤ 1030
instance (cs : List Sto.Ch) : Decidable (LightC cs) := inferInstanceAs (Decidable (_ ∧ _))

set_option maxRecDepth 100000 in
set_option maxHeartbeats 1600000 in
theorem lightc_any {w : World} {G : Nat → Prop} {cv : Value} {cs : List Sto.Ch} (hc : Changes w G cv cs) (hl : cs.length ≤ 9223372036854775807) :
    Calls Tryz.prog 11 #[cv] w fun e w' => e = .returned (.bool (decide (LightC cs))) ∧ w' = w := by
  obtain ⟨A, cap, rfl, hcap⟩ := hc.slice
  have H := Lib.hid hc
  have hl' : (cs.length : Int) ≤ 9223372036854775807 := by omega
  clear hc hl
  go_enter Tryz.func11, Tryz.ntmps11
  go_wp2_with fail
  go_loopw [3] (fun i wr => ∃ n : Nat, n ≤ cs.length ∧ i = .int .i64 (n : Int) ∧ (∀ j x, j < n → cs[j]? = some x → x.val.length ≤ 5000 ∧ x.key.length ≤ 100) ∧ wr = w) (fun i _ => cs.length - (intOf i).toNat)
  case atStart => exact ⟨0, Nat.zero_le _, rfl, (fun j x hj => absurd hj (by omega)), rfl⟩
  case round =>
    obtain ⟨n, hn, rfl, hall, rfl⟩ := hrel
    have Hall := Lib.hid hall
    clear hall
    by_cases hlt : n < cs.length
    · obtain ⟨b, o, cap', e, -, -, hb⟩ := H.out.shape (by omega)
      injection e with e1 e2 e3
      subst e1 e3
      obtain ⟨x, hx⟩ : ∃ x, cs[n]? = some x := ⟨_, List.getElem?_eq_getElem hlt⟩
      obtain ⟨c0, c1, c2⟩ := Changes.at H.out hx
      have hn0 : (0 : Int) ≤ (n : Int) := by omega
      have hn1 : (n : Int) < (cs.length : Int) := by omega
      have k1 : (mk x.key).size = x.key.length := mk_len _
      have k2 : (mk x.val).size = x.val.length := mk_len _
      by_cases hok : x.val.length ≤ 5000 ∧ x.key.length ≤ 100
      · have g1 : decide ((5000 : Int) < ((mk x.val).size : Int)) = false := by rw [k2]; simp; omega
        have g2 : decide ((100 : Int) < ((mk x.key).size : Int)) = false := by rw [k1]; simp; omega
        have hall2 : Hid (∀ j y, j < n + 1 → cs[j]? = some y → y.val.length ≤ 5000 ∧ y.key.length ≤ 100) := Lib.hid (fun j y hj hy => by
          by_cases e : j = n
          · rw [e, hx] at hy
            injection hy with hy
            rw [← hy]; exact hok
          · exact Hall.out j y (by omega) hy)
        clear hx hok k1 k2
        generalize mk x.key = x1 at *
        generalize mk x.val = x2 at *
        go_wp2_with fail
        refine ⟨⟨n + 1, by omega, rfl, hall2.out, by first | rfl | trivial⟩, ?_⟩
        show cs.length - ((n : Int) + 1).toNat < cs.length - (n : Int).toNat
        omega
      · have hd : Hid (decide (LightC cs) = false) := Lib.hid (decide_eq_false (fun e => hok (e.1 x (List.mem_of_getElem? hx))))
        have hcase : decide ((5000 : Int) < ((mk x.val).size : Int)) = true ∨ (decide ((5000 : Int) < ((mk x.val).size : Int)) = false ∧ decide ((100 : Int) < ((mk x.key).size : Int)) = true) := by
          rw [k1, k2]
          by_cases h : x.val.length ≤ 5000
          · exact Or.inr ⟨by simp; omega, by have : ¬ x.key.length ≤ 100 := fun h2 => hok ⟨h, h2⟩
                                             simp; omega⟩
          · exact Or.inl (by simp; omega)
        clear hx hok k1 k2
        generalize mk x.key = x1 at *
        generalize mk x.val = x2 at *
        rcases hcase with g1 | ⟨g1, g2⟩
        all_goals
          go_wp2_with fail
          go_ret
          exact ⟨by rw [hd.out]; rfl, rfl⟩
    · obtain rfl : n = cs.length := by omega
      have hd : Hid (decide (LightC cs) = decide ((cs.length : Int) ≤ 1030)) := Lib.hid (by
        rw [decide_eq_decide]
        refine ⟨fun e => by have := e.2; omega, fun e => ⟨fun c hc => ?_, by omega⟩⟩
        obtain ⟨j, hj, rfl⟩ := List.getElem_of_mem hc
        exact Hall.out j _ hj (List.getElem?_eq_getElem hj))
      go_wp2_with fail
      go_ret
      exact ⟨by rw [hd.out]; rfl, rfl⟩
end Go.Proofs.YtbfjageaheijbaaGreat
