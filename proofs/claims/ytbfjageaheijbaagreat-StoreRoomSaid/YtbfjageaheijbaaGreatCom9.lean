/- The document's own answers of layer 6: Bytes, Keys; the law's After. -/
import Derived.Test.YtbfjageaheijbaaGreatCom8
import Derived.Test.YtbfjageaheijbaaGreatCom6
import Derived.Test.YtbfjageaheijbaaGreatCom7
import Derived.Deep.QuietTactic
import Derived.Deep.RegionLaw
namespace Go.Proofs.YtbfjageaheijbaaGreat
open Go.RowKit

set_option maxRecDepth 100000 in
theorem bytes_take (l : List Sto.Pr) (i : Nat) (x : Sto.Pr) (hx : l[i]? = some x) : Sto.bytes (l.take (i + 1)) = Sto.bytes (l.take i) + x.1.length + x.2.length := by
  obtain ⟨hl, he⟩ := List.getElem?_eq_some_iff.1 hx
  rw [List.take_succ_eq_append_getElem hl, he]
  unfold Sto.bytes
  simp
  omega

set_option maxRecDepth 100000 in
theorem fit_take {l : List Sto.Pr} (h : Sto.Fit l) (i : Nat) : Sto.Fit (l.take i) := fun p hp => h p (List.mem_of_mem_take hp)

set_option maxRecDepth 100000 in
set_option maxHeartbeats 1600000 in
theorem ref_bytes {w : World} {F : Nat → Prop} {v : Value} {l : List Sto.Pr} (h : Pairs w F v l) (hl : l.length ≤ 1000000) (hf : Sto.Fit l) :
    Calls Tryz.prog 37 #[v] w fun e w' => e = .returned (.int .i64 (Sto.bytes l : Int)) ∧ Below w.heap.size w w' := by
  obtain ⟨A, cap, rfl, hcap⟩ := h.slice
  have H := Lib.hid h
  have Hf := Lib.hid hf
  have hl' : (l.length : Int) ≤ 1000000 := by omega
  clear h hf
  go_enter Tryz.func37, Tryz.ntmps37
  go_wp2_with fail
  go_loopw [3, 4] (fun o i wr => ∃ n : Nat, n ≤ l.length ∧ i = .int .i64 (n : Int) ∧ o = .int .i64 (Sto.bytes (l.take n) : Int) ∧ Below w.heap.size w wr) (fun _ i _ => l.length - (intOf i).toNat)
  case atStart => exact ⟨0, Nat.zero_le _, rfl, rfl, Below.refl _ _⟩
  case round =>
    obtain ⟨n, hn, rfl, rfl, hbel⟩ := hrel
    by_cases hlt : n < l.length
    · obtain ⟨b, o, cap', e, -, -, hb⟩ := H.out.shape (by omega)
      injection e with e1 e2 e3
      subst e1 e3
      obtain ⟨x, hx⟩ : ∃ x, l[n]? = some x := ⟨_, List.getElem?_eq_getElem hlt⟩
      obtain ⟨c0, c1⟩ := Pairs.at (H.out.below (Below.refl _ _)) hx
      have c0 : wr.cell? ⟨b, o + n * 2, none⟩ = some (.string (mk x.1)) := (hbel.cell (p := ⟨b, o + n * 2, none⟩) hb).trans c0
      have c1 : wr.cell? ⟨b, o + n * 2 + 1, none⟩ = some (.string (mk x.2)) := (hbel.cell (p := ⟨b, o + n * 2 + 1, none⟩) hb).trans c1
      have hst := bytes_take l n x hx
      have hn0 : (0 : Int) ≤ (n : Int) := by omega
      have hn1 : (n : Int) < (l.length : Int) := by omega
      have hle := Sto.bytes_le (fit_take Hf.out n)
      have hle2 := Sto.bytes_le (fit_take Hf.out (n + 1))
      have hlt2 : (l.take n).length ≤ 1000000 := by rw [List.length_take]; omega
      have hlt3 : (l.take (n + 1)).length ≤ 1000000 := by rw [List.length_take]; omega
      have s1 : ((mk x.1).size : Int) ≤ 4200000000 := by rw [mk_len]; omega
      have s2 : ((mk x.2).size : Int) ≤ 4200000000 := by rw [mk_len]; omega
      have s3 : (Sto.bytes (l.take n) : Int) ≤ 4200000000 := by omega
      have hst2 : Hid ((Sto.bytes (l.take n) : Int) + ((mk x.1).size : Int) + ((mk x.2).size : Int) = (Sto.bytes (l.take (n + 1)) : Int)) := Lib.hid (by rw [mk_len, mk_len]; omega)
      have Hbel := Lib.hid hbel
      clear hx hst hbel hle hle2 hlt2 hlt3
      generalize mk x.1 = x1 at *
      generalize mk x.2 = x2 at *
      generalize Sto.bytes (l.take n) = bb at *
      go_wp2_with fail
      go_quiet (fail)
      go_wp2_with fail
      refine ⟨⟨n + 1, by omega, rfl, by rw [← hst2.out], ?_⟩, ?_⟩
      · exact Hbel.out.trans ((below_drews' wr nq).mono Hbel.out.size)
      · show l.length - ((n : Int) + 1).toNat < l.length - (n : Int).toNat
        omega
    · obtain rfl : n = l.length := by omega
      rw [List.take_length]
      have Hbel := Lib.hid hbel
      clear hbel
      obtain ⟨bb, hbb⟩ : ∃ bb, Sto.bytes l = bb := ⟨_, rfl⟩
      rw [hbb]
      have Hbb := Lib.hid hbb
      clear hbb
      go_wp2_with fail
      go_ret
      exact ⟨by rw [Hbb.out]; rfl, Hbel.out⟩

set_option maxRecDepth 100000 in
theorem keys_take (l : List Sto.Pr) (p : Sto.Key) (i : Nat) (x : Sto.Pr) (hx : l[i]? = some x) : Sto.keys (l.take (i + 1)) p = Sto.keys (l.take i) p ++ (if x.1.take p.length = p then [x.1] else []) := by
  obtain ⟨hl, he⟩ := List.getElem?_eq_some_iff.1 hx
  rw [List.take_succ_eq_append_getElem hl, he]
  unfold Sto.keys
  rw [List.map_append, List.filter_append]
  congr 1
  by_cases h : x.1.take p.length = p
  · rw [if_pos h]
    simp [h]
  · rw [if_neg h]
    simp [h]

set_option maxRecDepth 100000 in
theorem keys_len (l : List Sto.Pr) (p : Sto.Key) : (Sto.keys l p).length ≤ l.length := by
  unfold Sto.keys
  exact Nat.le_trans (List.length_filter_le _ _) (by rw [List.length_map]; exact Nat.le_refl _)

set_option maxRecDepth 100000 in
set_option maxHeartbeats 1600000 in
theorem ref_keys {w : World} {F : Nat → Prop} {v : Value} {l : List Sto.Pr} (h : Pairs w F v l) (hl : l.length ≤ 1000000) (p : ByteArray) (hp : p.size ≤ 9223372036854775807) :
    Calls Tryz.prog 25 #[v, .string p] w fun e w' => ∃ v', e = .returned v' ∧ Cells w' (NewIn w w') v' (texts (Sto.keys l p.data.toList)) ∧ Below w.heap.size w w' := by
  obtain ⟨i0, hi, hz0, hz1, hz2⟩ := info_parts strInfo
  obtain ⟨p, rfl⟩ : ∃ q, p = mk q := ⟨_, (mk_of p).symm⟩
  rw [mk_data]
  obtain ⟨A, cap, rfl, hcap⟩ := h.slice
  have H := Lib.hid h
  have hl' : (l.length : Int) ≤ 1000000 := by omega
  have hp' : ((mk p).size : Int) ≤ 9223372036854775807 := by omega
  clear h hp
  go_enter Tryz.func25, Tryz.ntmps25
  go_wp2_with fail
  go_loopw [5, 7] (fun o i wr => ∃ n : Nat, n ≤ l.length ∧ i = .int .i64 (n : Int) ∧ TextsOwn w (Sto.keys (l.take n) p) o wr) (fun _ i _ => l.length - (intOf i).toNat)
  case atStart => exact ⟨0, Nat.zero_le _, rfl, texts_start w⟩
  case round =>
    obtain ⟨n, hn, rfl, hown⟩ := hrel
    by_cases hlt : n < l.length
    · obtain ⟨b, o, cap', e, -, -, hb⟩ := H.out.shape (by omega)
      injection e with e1 e2 e3
      subst e1 e3
      obtain ⟨x, hx⟩ : ∃ x, l[n]? = some x := ⟨_, List.getElem?_eq_getElem hlt⟩
      obtain ⟨c0, c1⟩ := Pairs.at (H.out.below (Below.refl _ _)) hx
      have c0 : wr.cell? ⟨b, o + n * 2, none⟩ = some (.string (mk x.1)) := (hown.2.cell (p := ⟨b, o + n * 2, none⟩) hb).trans c0
      have hst := keys_take l p n x hx
      have hn0 : (0 : Int) ≤ (n : Int) := by omega
      have hn1 : (n : Int) < (l.length : Int) := by omega
      have hdl : Hid ((Sto.keys (l.take n) p).length ≤ 1000000) := Lib.hid (by have := keys_len (l.take n) p; rw [List.length_take] at this; omega)
      by_cases hk : x.1.take p.length = p
      · have hle : p.length ≤ x.1.length := by
          have := congrArg List.length hk
          rw [List.length_take] at this
          omega
        have g1 : decide (((mk p).size : Int) ≤ ((mk x.1).size : Int)) = true := by rw [mk_len, mk_len]; simpa using hle
        have g2 : ((mk p).size : Int) ≤ ((mk x.1).size : Int) := by rw [mk_len, mk_len]; omega
        have g3 : (((mk x.1).extract 0 (mk p).size).toList == (mk p).toList) = true := by
          rw [Lib.toList_data, Lib.toList_data, Lib.extract_data, mk_data, mk_data, mk_len, List.drop_zero, Nat.sub_zero, hk]
          exact beq_self_eq_true _
        have g4 : (((mk x.1).extract 0 (mk p).size).toList != (mk p).toList) = false := by rw [bne, g3]; rfl
        rw [if_pos hk] at hst
        have Hst := Lib.hid hst
        have Hown := Lib.hid hown
        have hz := hown.2.size
        have hown1 := hown.1
        clear hx hst hown hk hle c1
        generalize hx1 : mk x.1 = x1 at *
        generalize mk p = pp at *
        have hc1 : ∀ {w1 : World} j u, [Value.string x1][j]? = some u → (w1.alloc (.cells #[.string x1] 9)).cell? ((⟨w1.heap.size, 0, none⟩ : Addr).add j) = some u := by
          intro w1 j u hj
          match j, hj with
          | 0, hj => simp at hj; subst hj; simp [Addr.add]
        go_wp2_with (at_builtin; refine wpList_append_own _ rfl _ _ 55 rfl w.heap.size 9 i0 (.string ⟨#[]⟩) 1 16 Tryz.underlying55 hi hz0 hz1 hz2 rfl (by decide) _ _ _ rfl (hown1.alloc _) ⟨wr.heap.size, 0, none⟩ 1 1 [.string x1] rfl rfl hc1 ?c2 ?c3 ?c4 ?c5 ?_)
        case c2 => first | rfl | (intro u hu; simp at hu; subst hu; rfl)
        case c3 => have := hdl.out; unfold maxLen; omega
        case c4 => have := hdl.out; omega
        case c5 => first | omega | (simp; omega)
        intro v' w2 hown' hgrow' _
        have hnew := texts_more Hown.out (x := x.1) (v' := v') (by rw [hx1]; simpa using hown') hgrow'
        clear hown' hgrow' hown1
        go_wp2
        go_roundw
        case rel => exact ⟨n + 1, by omega, by go_num, by rw [Hst.out]; exact hnew⟩
        case measure => simp [intOf]; omega
      · rw [if_neg hk, List.append_nil] at hst
        have Hst := Lib.hid hst
        have Hown := Lib.hid hown
        by_cases hle : p.length ≤ x.1.length
        · have g1 : decide (((mk p).size : Int) ≤ ((mk x.1).size : Int)) = true := by rw [mk_len, mk_len]; simpa using hle
          have g2 : ((mk p).size : Int) ≤ ((mk x.1).size : Int) := by rw [mk_len, mk_len]; omega
          have g3 : (((mk x.1).extract 0 (mk p).size).toList == (mk p).toList) = false := by
            rw [beq_eq_false_iff_ne, Lib.toList_data, Lib.toList_data, Lib.extract_data, mk_data, mk_data, mk_len, List.drop_zero, Nat.sub_zero]
            exact hk
          have g4 : (((mk x.1).extract 0 (mk p).size).toList != (mk p).toList) = true := by rw [bne, g3]; rfl
          clear hx hst hown hk hle c1
          generalize mk x.1 = x1 at *
          generalize mk p = pp at *
          go_wp2_with fail
          refine ⟨⟨n + 1, by omega, rfl, by rw [Hst.out]; exact Hown.out⟩, ?_⟩
          show l.length - ((n : Int) + 1).toNat < l.length - (n : Int).toNat
          omega
        · have g1 : decide (((mk p).size : Int) ≤ ((mk x.1).size : Int)) = false := by rw [mk_len, mk_len]; simpa using hle
          have g2 : ¬ ((mk p).size : Int) ≤ ((mk x.1).size : Int) := by rw [mk_len, mk_len]; omega
          clear hx hst hown hk hle c1
          generalize mk x.1 = x1 at *
          generalize mk p = pp at *
          go_wp2_with fail
          refine ⟨⟨n + 1, by omega, rfl, by rw [Hst.out]; exact Hown.out⟩, ?_⟩
          show l.length - ((n : Int) + 1).toNat < l.length - (n : Int).toNat
          omega
    · obtain rfl : n = l.length := by omega
      rw [List.take_length] at hown
      have Hown := Lib.hid hown
      clear hown
      go_wp2_with fail
      go_ret
      exact ⟨u5, rfl, Hown.out.cells, Hown.out.2⟩

/-! ### The law's After -/

set_option maxRecDepth 100000 in
theorem Changes.at {w : World} {F : Nat → Prop} {b o : Nat} {n cap : Nat} {l : List Sto.Ch} (h : Changes w F (.slice (some ⟨b, o, none⟩) n cap) l) {i : Nat} {x : Sto.Ch} (hx : l[i]? = some x) :
    w.cell? ⟨b, o + i * 3, none⟩ = some (.string (mk x.key)) ∧ w.cell? ⟨b, o + i * 3 + 1, none⟩ = some (.string (mk x.val)) ∧ w.cell? ⟨b, o + i * 3 + 2, none⟩ = some (.bool x.gone) := by
  obtain ⟨A, c, e, -, hat⟩ := h
  injection e with e1 e2 e3
  obtain ⟨b', o', e, -, -, hc⟩ := hat (by obtain ⟨hl, _⟩ := List.getElem?_eq_some_iff.1 hx; omega)
  rw [e] at e1
  injection e1 with e1
  injection e1 with e1 e2
  subst e1 e2
  exact ⟨hc i x hx 0 _ rfl, hc i x hx 1 _ rfl, hc i x hx 2 _ rfl⟩

/-- Values of the caller's, or of the call's own. -/
def Vals (w : World) (F : Nat → Prop) (l : List Sto.Pr) (v : Value) (wr : World) : Prop := Pairs wr (fun i => F i ∨ NewIn w wr i) v l ∧ Below w.heap.size w wr

set_option maxRecDepth 100000 in
theorem Vals.next {w wr w' : World} {F : Nat → Prop} {l m : List Sto.Pr} {v v' : Value} (h : Vals w F l v wr) (hn : PairsOwn wr m v' w') : Vals w F m v' w' :=
  ⟨hn.pairs.mono (fun i hi => Or.inr ⟨Nat.le_trans h.2.size hi.1, hi.2⟩), h.2.trans (hn.2.mono h.2.size)⟩

set_option maxRecDepth 100000 in
theorem PairsOwn.undrew {wr w' : World} {l : List Sto.Pr} {v : Value} (h : PairsOwn wr.drew l v w') : PairsOwn wr l v w' := ⟨h.1, ⟨h.2.os, h.2.tape, h.2.output, h.2.size, h.2.block⟩⟩

set_option maxRecDepth 100000 in
set_option maxHeartbeats 1600000 in
theorem after_any {w : World} {F G : Nat → Prop} {v cv : Value} {l : List Sto.Pr} {cs : List Sto.Ch} (h : Pairs w F v l) (hc : Changes w G cv cs) (hl : l.length + cs.length ≤ 1000000) :
    Calls Tryz.prog 14 #[v, cv] w fun e w' => ∃ v', e = .returned v' ∧ Vals w F (Sto.after l cs) v' w' := by
  obtain ⟨A, cap, rfl, hcap⟩ := hc.slice
  have H := Lib.hid hc
  have hl' : (cs.length : Int) ≤ 1000000 := by omega
  have hstart : Vals w F (Sto.after l (cs.take 0)) v w := ⟨h.mono (fun _ => Or.inl), Below.refl _ _⟩
  clear hc h
  go_enter Tryz.func14, Tryz.ntmps14
  go_wp2_with fail
  go_loopw [0, 5] (fun o i wr => ∃ n : Nat, n ≤ cs.length ∧ i = .int .i64 (n : Int) ∧ Vals w F (Sto.after l (cs.take n)) o wr) (fun _ i _ => cs.length - (intOf i).toNat)
  case atStart => exact ⟨0, Nat.zero_le _, rfl, hstart⟩
  case round =>
    obtain ⟨n, hn, rfl, hv⟩ := hrel
    clear hstart
    by_cases hlt : n < cs.length
    · obtain ⟨b, o, cap', e, -, -, hb⟩ := H.out.shape (by omega)
      injection e with e1 e2 e3
      subst e1 e3
      obtain ⟨x, hx⟩ : ∃ x, cs[n]? = some x := ⟨_, List.getElem?_eq_getElem hlt⟩
      obtain ⟨c0, c1, c2⟩ := Changes.at (H.out.below hv.2) hx
      have hst := Sto.after_take l cs n x hx
      have hn0 : (0 : Int) ≤ (n : Int) := by omega
      have hn1 : (n : Int) < (cs.length : Int) := by omega
      have hlen : (Sto.after l (cs.take n)).length ≤ 1000000 := by
        have := Sto.after_len l (cs.take n)
        rw [List.length_take] at this
        omega
      have hdrop := ref_drop hv.1 hlen (mk x.key)
      have hput := ref_put (w := wr.drew) (hv.1.below ⟨rfl, rfl, rfl, Nat.le_refl _, fun _ _ => rfl⟩) hlen (mk x.key) (mk x.val)
      rw [mk_data] at hdrop hput
      rw [mk_data] at hput
      cases hg : x.gone
      · have hs : Sto.step (Sto.after l (cs.take n)) x = Sto.put (Sto.after l (cs.take n)) x.key x.val := by unfold Sto.step; rw [hg]; rfl
        rw [← hs, ← hst] at hput
        have Hput := Lib.hid hput
        have Hv := Lib.hid hv
        rw [hg] at c2
        clear hx hst hs hv hdrop hput hg
        generalize mk x.key = x1 at *
        generalize mk x.val = x2 at *
        go_wp2_with fail
        go_region_law (first | (go_simp; go_at_call 40; refine (Hput.out).mono ?_; rintro e w1 ⟨v1, rfl, hown⟩))
        all_goals
          go_wp2_with fail
          refine ⟨⟨n + 1, by omega, rfl, Hv.out.next hown.undrew⟩, ?_⟩
          show cs.length - ((n : Int) + 1).toNat < cs.length - (n : Int).toNat
          omega
      · have hs : Sto.step (Sto.after l (cs.take n)) x = Sto.drop (Sto.after l (cs.take n)) x.key := by unfold Sto.step; rw [hg]; rfl
        rw [← hs, ← hst] at hdrop
        have Hdrop := Lib.hid hdrop
        have Hv := Lib.hid hv
        rw [hg] at c2
        clear hx hst hs hv hdrop hput hg
        generalize mk x.key = x1 at *
        generalize mk x.val = x2 at *
        go_wp2_with (go_at_call 39; refine (Hdrop.out).mono ?_; rintro e w1 ⟨v1, rfl, hown⟩)
        refine ⟨⟨n + 1, by omega, rfl, Hv.out.next hown⟩, ?_⟩
        show cs.length - ((n : Int) + 1).toNat < cs.length - (n : Int).toNat
        omega
    · obtain rfl : n = cs.length := by omega
      rw [List.take_length] at hv
      have Hv := Lib.hid hv
      clear hv
      go_wp2_with fail
      go_ret
      exact ⟨_, rfl, Hv.out⟩
end Go.Proofs.YtbfjageaheijbaaGreat
/- What the packages disk and journal are to answer to layer 5's laws (DiskUse, JournalOk), which is proved of the landed code elsewhere. -/
namespace Go.Proofs.YtbfjageaheijbaaGreat
open Go.RowKit Dsk Jnl

def Newly (w w' : World) (k : Nat) : Prop := w.heap.size ≤ k ∧ k < w'.heap.size

/-- What a call on a disk may do: the disk's own blocks, and new ones. -/
def Doing (At : World → (Nat → Prop) → Value → D → Prop) (w : World) (F : Nat → Prop) (v : Value) (d : D) (w' : World) : Prop := At w' (Grow F w w') v d ∧ Kept F w w'

/-- Of the disk's contracts those that layer 5's laws need. -/
structure DiskUse (At : World → (Nat → Prop) → Value → D → Prop) : Prop where
  kept : ∀ {w w' F G v d}, At w F v d → Kept G w w' → (∀ i, F i → ¬ G i) → At w' F v d
  lt : ∀ {w F v d}, At w F v d → ∀ k, F k → k < w.heap.size
  ptr : ∀ {w F v d}, At w F v d → ∃ p, v = .pointer (some p)
  new_ok : ∀ (n : Nat) (w : World), 1 ≤ n → n ≤ 4096 → Calls Tryz.prog 7 #[.int .i64 (n : Int)] w fun e w' => ∃ v, e = .returned (.tuple #[v, .int .i64 0]) ∧ At w' (Newly w w') v (Dsk.new n) ∧ Below w.heap.size w w'
  write : ∀ {w F v d N}, At w F v d → d.Fine N → N ≤ 100000 → ∀ (i : Int) (s : ByteArray), -9223372036854775808 ≤ i → i ≤ 9223372036854775807 → s.size ≤ 9223372036854775807 →
    Calls Tryz.prog 56 #[v, .int .i64 i, .string s] w fun e w' => e = .returned (.int .i64 (d.write i s).1) ∧ Doing At w F v (d.write i s).2 w'
  read : ∀ {w F v d N}, At w F v d → d.Fine N → N ≤ 100000 → ∀ (i : Int), -9223372036854775808 ≤ i → i ≤ 9223372036854775807 →
    Calls Tryz.prog 76 #[v, .int .i64 i] w fun e w' => e = .returned (.tuple #[.string (d.read i).1, .int .i64 (d.read i).2]) ∧ Doing At w F v d w'
  flush : ∀ {w F v d N}, At w F v d → d.Fine N → N ≤ 100000 → Calls Tryz.prog 86 #[v] w fun e w' => e = .returned (.int .i64 d.flush.1) ∧ Doing At w F v d.flush.2 w'
  arm : ∀ {w F v d N}, At w F v d → d.Fine N → N ≤ 100000 → ∀ (n : Int), -9223372036854775808 ≤ n → n ≤ 9223372036854775807 →
    Calls Tryz.prog 16 #[v, .int .i64 n] w fun e w' => e = .returned (.tuple #[]) ∧ Doing At w F v (d.arm n) w'
  crash : ∀ {w F G v d N kv ks}, At w F v d → d.Fine N → N ≤ 100000 → Cells w G kv (ks.map (Value.int .i64)) → (∀ i, G i → ¬ F i) → (∀ x ∈ ks, -9223372036854775808 ≤ x ∧ x ≤ 9223372036854775807) → ks.length ≤ 9223372036854775807 →
    Calls Tryz.prog 21 #[v, kv] w fun e w' => e = .returned (.tuple #[]) ∧ Doing At w F v (d.crash ks) w'

/-- A disk and a journal on it, of blocks of F. -/
def JAt (At : World → (Nat → Prop) → Value → D → Prop) (Own : World → (Nat → Prop) → Value → Value → Nat → J → Prop) (w : World) (F : Nat → Prop) (dv jv : Value) (n : Nat) (d : D) (j : J) : Prop :=
  ∃ F1 F2, At w F1 dv d ∧ Own w F2 dv jv n j ∧ (∀ k, F1 k → ¬ F2 k) ∧ (∀ k, F1 k → F k) ∧ ∀ k, F2 k → F k

/-- A journal's disk, and its sectors. -/
structure Sound (n : Nat) (d : D) (N : Nat) : Prop where
  shape : Shape n d
  fine : d.Fine N
  four : 4 ≤ n
  full : ∀ k, k < n → (Jnl.now d k).data.toList.length = 64

structure JournalOk (At : World → (Nat → Prop) → Value → D → Prop) (Own : World → (Nat → Prop) → Value → Value → Nat → J → Prop) : Prop where
  kept : ∀ {w w' F G dv jv n j}, Own w F dv jv n j → Kept G w w' → (∀ i, F i → ¬ G i) → Own w' F dv jv n j
  lt : ∀ {w F dv jv n j}, Own w F dv jv n j → ∀ k, F k → k < w.heap.size
  ptr : ∀ {w F dv jv n j}, Own w F dv jv n j → ∃ p, jv = .pointer (some p)
  format : ∀ {w F dv n d N}, At w F dv d → Sound n d N → N + 3 ≤ 100000 → Calls Tryz.prog 33 #[dv] w fun e w' => e = .returned (.int .i64 (Jnl.format d).1) ∧ Doing At w F dv (Jnl.format d).2 w'
  format_few : ∀ {w F dv d N}, At w F dv d → d.Fine N → N ≤ 100000 → d.S.length < 4 → Calls Tryz.prog 33 #[dv] w fun e w' => e = .returned (.int .i64 2) ∧ Doing At w F dv d w'
  format_none : ∀ w, Calls Tryz.prog 33 #[.pointer none] w fun e w' => e = .returned (.int .i64 1) ∧ Below w.heap.size w w'
  opened : ∀ {w F dv n d N j l}, At w F dv d → Sound n d N → N ≤ 100000 → d.down = false → opens n (Jnl.now d) = (0, some j, l) →
    Calls Tryz.prog 26 #[dv] w fun e w' => ∃ jv lv G H, e = .returned (.tuple #[jv, lv, .int .i64 0]) ∧ JAt At Own w' G dv jv n d j ∧ Cells w' H lv (texts l) ∧ (∀ k, G k → ¬ H k) ∧ (∀ k, G k → Grow F w w' k) ∧ (∀ k, H k → Newly w w' k) ∧ Kept F w w'
  refused : ∀ {w F dv n d N x}, At w F dv d → Sound n d N → N ≤ 100000 → d.down = false → opens n (Jnl.now d) = (x, none, []) →
    Calls Tryz.prog 26 #[dv] w fun e w' => ∃ A c, e = .returned (.tuple #[.pointer none, .slice A 0 c, .int .i64 x]) ∧ Doing At w F dv d w'
  open_few : ∀ {w F dv d N}, At w F dv d → d.Fine N → N ≤ 100000 → d.S.length < 4 → Calls Tryz.prog 26 #[dv] w fun e w' => ∃ A c, e = .returned (.tuple #[.pointer none, .slice A 0 c, .int .i64 2]) ∧ Doing At w F dv d w'
  open_none : ∀ w, Calls Tryz.prog 26 #[.pointer none] w fun e w' => ∃ A c, e = .returned (.tuple #[.pointer none, .slice A 0 c, .int .i64 1]) ∧ Below w.heap.size w w'
  append : ∀ {w F G dv jv lv n d j N a}, JAt At Own w F dv jv n d j → Sound n d N → N ≤ 100000 → (j.broken = true ∨ (Held n d j ∧ N + hof n + 3 ≤ 100000)) → Cells w G lv (texts a) → (∀ k, G k → ¬ F k) → a.length ≤ 100000 → (∀ t ∈ a, t.length ≤ 16777216) →
    Calls Tryz.prog 27 #[jv, lv] w fun e w' => e = .returned (.int .i64 (Jnl.append n d j a).1) ∧ JAt At Own w' (Grow F w w') dv jv n (Jnl.append n d j a).2.1 (Jnl.append n d j a).2.2 ∧ Kept F w w'
  rewrite : ∀ {w F G dv jv lv n d j N a}, JAt At Own w F dv jv n d j → Sound n d N → N ≤ 100000 → (j.broken = true ∨ (Held n d j ∧ N + hof n + 3 ≤ 100000)) → Cells w G lv (texts a) → (∀ k, G k → ¬ F k) → a.length ≤ 100000 → (∀ t ∈ a, t.length ≤ 16777216) →
    Calls Tryz.prog 68 #[jv, lv] w fun e w' => e = .returned (.int .i64 (Jnl.rewrite n d j a).1) ∧ JAt At Own w' (Grow F w w') dv jv n (Jnl.rewrite n d j a).2.1 (Jnl.rewrite n d j a).2.2 ∧ Kept F w w'
  used : ∀ {w F dv jv n d j}, JAt At Own w F dv jv n d j → Calls Tryz.prog 42 #[jv] w fun e w' => e = .returned (.int .i64 (j.bytes.length : Int)) ∧ JAt At Own w' (Grow F w w') dv jv n d j ∧ Kept F w w'
  room : ∀ {w F dv jv n d j}, JAt At Own w F dv jv n d j → d.S.length = n → Calls Tryz.prog 41 #[jv] w fun e w' => e = .returned (.int .i64 ((64 * hof n : Nat) - (j.bytes.length : Int))) ∧ JAt At Own w' (Grow F w w') dv jv n d j ∧ Kept F w w'
  none_append : ∀ w lv, Calls Tryz.prog 27 #[.pointer none, lv] w fun e w' => e = .returned (.int .i64 1) ∧ Below w.heap.size w w'
  none_rewrite : ∀ w lv, Calls Tryz.prog 68 #[.pointer none, lv] w fun e w' => e = .returned (.int .i64 1) ∧ Below w.heap.size w w'
  none_used : ∀ w, Calls Tryz.prog 42 #[.pointer none] w fun e w' => e = .returned (.int .i64 0) ∧ Below w.heap.size w w'
  none_room : ∀ w, Calls Tryz.prog 41 #[.pointer none] w fun e w' => e = .returned (.int .i64 0) ∧ Below w.heap.size w w'
section
variable {At : World → (Nat → Prop) → Value → D → Prop} {Own : World → (Nat → Prop) → Value → Value → Nat → J → Prop} {w w' : World} {F G : Nat → Prop} {dv jv : Value} {n : Nat} {d : D} {j : J} {N : Nat}

set_option maxRecDepth 100000 in
theorem JAt.lt (U : DiskUse At) (H : JournalOk At Own) (h : JAt At Own w F dv jv n d j) : JAt At Own w (fun k => F k ∧ k < w.heap.size) dv jv n d j := by
  obtain ⟨F1, F2, h1, h2, h3, h4, h5⟩ := h
  exact ⟨F1, F2, h1, h2, h3, fun k hk => ⟨h4 k hk, U.lt h1 k hk⟩, fun k hk => ⟨h5 k hk, H.lt h2 k hk⟩⟩

set_option maxRecDepth 100000 in
theorem JAt.kept (U : DiskUse At) (H : JournalOk At Own) (h : JAt At Own w F dv jv n d j) (k : Kept G w w') (hd : ∀ i, F i → ¬ G i) : JAt At Own w' F dv jv n d j := by
  obtain ⟨F1, F2, h1, h2, h3, h4, h5⟩ := h
  exact ⟨F1, F2, U.kept h1 k (fun i hi => hd i (h4 i hi)), H.kept h2 k (fun i hi => hd i (h5 i hi)), h3, h4, h5⟩

set_option maxRecDepth 100000 in
/-- A call of the disk alone leaves the journal as it is. -/
theorem JAt.disk (H : JournalOk At Own) {fn : Nat} {args : Array Value} {Q : Ending → Prop} {d' : D} (h : JAt At Own w F dv jv n d j)
    (hc : ∀ F1, At w F1 dv d → Calls Tryz.prog fn args w fun e w' => Q e ∧ Doing At w F1 dv d' w') :
    Calls Tryz.prog fn args w fun e w' => Q e ∧ JAt At Own w' (Grow F w w') dv jv n d' j ∧ Kept F w w' := by
  obtain ⟨F1, F2, h1, h2, h3, h4, h5⟩ := h
  refine (hc F1 h1).mono fun e w' ⟨hq, ha, hk⟩ => ⟨hq, ⟨Grow F1 w w', F2, ha, H.kept h2 hk (fun i hi hf => h3 i hf hi), fun k hk1 hk2 => ?_, fun k hk1 => ?_, fun k hk1 => Or.inl (h5 k hk1)⟩, hk.mono h4⟩
  · rcases hk1 with hk1 | hk1
    · exact h3 k hk1 hk2
    · have := H.lt h2 k hk2; omega
  · rcases hk1 with hk1 | hk1
    · exact Or.inl (h4 k hk1)
    · exact Or.inr hk1
end
end Go.Proofs.YtbfjageaheijbaaGreat
