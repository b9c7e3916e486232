import Derived.Test.YtkcgmnhjofoeiaaGreatCom16
import Derived.Test.YtkcgmnhjofoeiaaGreatCom3
import Derived.Test.YtkcgmnhjofoeiaaGreatCom8
import Derived.Test.YtkcgmnhjofoeiaaGreatCom2
import Derived.Test.YtkcgmnhjofoeiaaGreatCom4
import Derived.Test.YtkcgmnhjofoeiaaGreatCom1
import Derived.Test.YtkcgmnhjofoeiaaGreatCom14
import Derived.BigQuiet
import Derived.Lib.Bytealg
import Derived.Lib.Join
import Derived.Lib.LastIndexByte
import Derived.Lib.Strings
import Derived.Lib.OthersKept
import Derived.WalkMore
set_option maxRecDepth 100000
set_option linter.all false
set_option maxHeartbeats 12800000
namespace Go.Proofs.YtkcgmnhjofoeiaaGreat
open Go.RowKit
theorem char_cases (n : Nat) (h : n < 256) : n = 46 ∨ (97 ≤ n ∧ n ≤ 122) ∨ (48 ≤ n ∧ n ≤ 57) ∨ n = 45 ∨ n = 95 ∨ n < 45 ∨ n = 47 ∨ (57 < n ∧ n < 95) ∨ n = 96 ∨ 122 < n := by omega
theorem ref_name (s : List UInt8) (w : World) (hs : s.length ≤ 100000) :
    Calls Tryz.prog 109 #[.string (mk s)] w fun e w' => e = .returned (.bool (decide (Pth.Name s))) ∧ Below w.heap.size w w' := by
  have ls : (mk s).size = s.length := mk_len s
  have hS : ((mk s).size : Int) ≤ 100000 := by rw [ls]; omega
  have Ls := Lib.hid ls
  clear ls
  generalize hxs : mk s = xs at *
  have Hxs := Lib.hid hxs
  go_enter Tryz.func109, Tryz.ntmps109
  go_wp2_with fail
  go_loopw [3, 4] (fun d i wr => ∃ k : Nat, k ≤ s.length ∧ i = .int .i64 (k : Int) ∧ d = .int .i64 (Pth.dots (s.take k) : Int) ∧ (∀ c ∈ s.take k, Pth.okChar c = true) ∧ Below w.heap.size w wr) (fun _ i _ => s.length - (intOf i).toNat)
  case atStart => exact ⟨0, Nat.zero_le _, rfl, rfl, by simp, Below.refl _ _⟩
  case round =>
    obtain ⟨k, hk, rfl, rfl, hall, hbel⟩ := hrel
    have hk0 : (0 : Int) ≤ (k : Int) := by omega
    have hdk : Pth.dots (s.take k) ≤ k := by
      have := List.countP_le_length (p := fun c : UInt8 => c.toNat == 46) (l := s.take k)
      rw [List.length_take] at this
      unfold Pth.dots; omega
    have Hall := Lib.hid hall
    have Hbel := Lib.hid hbel
    clear hall hbel
    by_cases hlt : k < s.length
    · have hk1 : (k : Int) < (xs.size : Int) := by have := Ls.out; omega
      obtain ⟨c, hc, ic⟩ := idx xs k (by have := Ls.out; omega)
      have hsc : s[k]? = some c := by rw [← hc, ← Hxs.out, mk_data]
      obtain ⟨hl, he⟩ := List.getElem?_eq_some_iff.1 hsc
      have htk : s.take (k + 1) = s.take k ++ [c] := by rw [List.take_succ_eq_append_getElem hl, he]
      have hdn : Hid (Pth.dots (s.take (k + 1)) = Pth.dots (s.take k) + (if c.toNat = 46 then 1 else 0)) := Lib.hid (by
        rw [htk]
        unfold Pth.dots
        rw [List.countP_append, List.countP_singleton]
        by_cases h : c.toNat = 46
        · rw [if_pos h, h]; rfl
        · rw [if_neg h, if_neg (by simpa using h)])
      have hgood : Hid (Pth.okChar c = true → ∀ x ∈ s.take (k + 1), Pth.okChar x = true) := Lib.hid (fun h x hx => by
        rw [htk, List.mem_append] at hx
        rcases hx with hx | hx
        · exact Hall.out x hx
        · rw [List.mem_singleton.1 hx]; exact h)
      have hbad : Hid (Pth.okChar c = false → decide (Pth.Name s) = false) := Lib.hid (fun h => decide_eq_false (fun m => by
        have := m.1 c (List.mem_of_getElem? hsc)
        rw [h] at this; cases this))
      have hok : Hid (Pth.okChar c = ((decide (97 ≤ c.toNat) && decide (c.toNat ≤ 122)) || (decide (48 ≤ c.toNat) && decide (c.toNat ≤ 57)) || c.toNat == 45 || c.toNat == 95 || c.toNat == 46)) := Lib.hid rfl
      have hc256 := c.toNat_lt
      have hd9 : ((Pth.dots (s.take k) : Nat) : Int) ≤ 100000 := by omega
      clear hc hsc htk he hl hdk
      generalize c.toNat = cn at *
      generalize Pth.dots (s.take k) = dk at *
      rcases char_cases cn hc256 with h | h | h | h | h | h | h | h | h | h
      all_goals
        first | (have e46 : ((cn : Int) == 46) = true := by rw [beq_iff_eq]; omega) | (have e46 : ((cn : Int) == 46) = false := by rw [beq_eq_false_iff_ne]; omega)
        first | (have d97 : decide ((97 : Int) ≤ (cn : Int)) = true := decide_eq_true (by omega)) | (have d97 : decide ((97 : Int) ≤ (cn : Int)) = false := decide_eq_false (by omega))
        first | (have d122 : decide ((cn : Int) ≤ 122) = true := decide_eq_true (by omega)) | (have d122 : decide ((cn : Int) ≤ 122) = false := decide_eq_false (by omega))
        first | (have d48 : decide ((48 : Int) ≤ (cn : Int)) = true := decide_eq_true (by omega)) | (have d48 : decide ((48 : Int) ≤ (cn : Int)) = false := decide_eq_false (by omega))
        first | (have d57 : decide ((cn : Int) ≤ 57) = true := decide_eq_true (by omega)) | (have d57 : decide ((cn : Int) ≤ 57) = false := decide_eq_false (by omega))
        first | (have e45 : ((cn : Int) == 45) = true := by rw [beq_iff_eq]; omega) | (have e45 : ((cn : Int) == 45) = false := by rw [beq_eq_false_iff_ne]; omega)
        first | (have e95 : ((cn : Int) == 95) = true := by rw [beq_iff_eq]; omega) | (have e95 : ((cn : Int) == 95) = false := by rw [beq_eq_false_iff_ne]; omega)
        first
          | (have hT : Hid (Pth.okChar c = true) := Lib.hid (by rw [hok.out]; simp; omega))
          | (have hF : Hid (Pth.okChar c = false) := Lib.hid (by rw [hok.out]; simp; omega))
        have HH := Lib.hid h
        clear h
        go_wp2_with fail
        first
          | (go_ret
             exact ⟨by rw [hbad.out hF.out]; rfl, Hbel.out⟩)
          | (refine ⟨⟨k + 1, by omega, rfl, ?_, hgood.out hT.out, Hbel.out⟩, ?_⟩
             · rw [hdn.out]
               first
                 | (rw [if_pos (by have := HH.out; omega)]; rfl)
                 | (rw [if_neg (by have := HH.out; omega)]; rfl)
             · show s.length - ((k : Int) + 1).toNat < s.length - (k : Int).toNat
               omega)
    · obtain rfl : k = s.length := by omega
      rw [List.take_length] at hdk ⊢
      have Hall2 := Lib.hid (show ∀ c ∈ s, Pth.okChar c = true from by have := Hall.out; rw [List.take_length] at this; exact this)
      have hk1 : ¬ (s.length : Int) < (xs.size : Int) := by have := Ls.out; omega
      have hcase : (decide ((1 : Int) ≤ (xs.size : Int)) = false ∧ Hid (decide (Pth.Name s) = false)) ∨ (decide ((1 : Int) ≤ (xs.size : Int)) = true ∧ decide ((xs.size : Int) ≤ 12) = false ∧ Hid (decide (Pth.Name s) = false)) ∨
          (decide ((1 : Int) ≤ (xs.size : Int)) = true ∧ decide ((xs.size : Int) ≤ 12) = true ∧ decide (Pth.dots s < xs.size) = false ∧ Hid (decide (Pth.Name s) = false)) ∨ (decide ((1 : Int) ≤ (xs.size : Int)) = true ∧ decide ((xs.size : Int) ≤ 12) = true ∧ decide (Pth.dots s < xs.size) = true ∧ Hid (decide (Pth.Name s) = true)) := by
        have e := Ls.out
        by_cases h1 : 1 ≤ s.length
        · by_cases h2 : s.length ≤ 12
          · by_cases h3 : Pth.dots s < s.length
            · exact Or.inr (Or.inr (Or.inr ⟨decide_eq_true (by omega), decide_eq_true (by omega), decide_eq_true (by omega), Lib.hid (decide_eq_true ⟨Hall2.out, h1, h2, h3⟩)⟩))
            · exact Or.inr (Or.inr (Or.inl ⟨decide_eq_true (by omega), decide_eq_true (by omega), decide_eq_false (by omega), Lib.hid (decide_eq_false (fun m => h3 m.2.2.2))⟩))
          · exact Or.inr (Or.inl ⟨decide_eq_true (by omega), decide_eq_false (by omega), Lib.hid (decide_eq_false (fun m => h2 m.2.2.1))⟩)
        · exact Or.inl ⟨decide_eq_false (by omega), Lib.hid (decide_eq_false (fun m => h1 m.2.1))⟩
      have hdl : ((Pth.dots s : Nat) : Int) ≤ 100000 := by omega
      clear hdk
      generalize Pth.dots s = dk at *
      rcases hcase with ⟨g1, hf⟩ | ⟨g1, g2, hf⟩ | ⟨g1, g2, g3, hf⟩ | ⟨g1, g2, g3, hf⟩
      all_goals
        go_wp2_with fail
        go_ret
        exact ⟨by rw [hf.out]; rfl, Hbel.out⟩
open Go.RowKit
theorem Pth.splitA_len (s : Tx) : ∀ cur, (splitA cur s).length ≤ s.length + 1 := by
 induction s with
 | nil => intro cur; simp [splitA]
 | cons c s ih =>
  intro cur
  unfold splitA
  split
  ·simp only [List.length_cons]; have := ih []; omega
  ·have := ih (cur ++ [c]); simp only [List.length_cons]; omega
theorem Pth.splitA_small (s : Tx) : ∀ cur, ∀ t ∈ splitA cur s, t.length ≤ cur.length + s.length := by
 induction s with
 | nil => intro cur t ht; simp [splitA] at ht; rw [ht]; simp
 | cons c s ih =>
  intro cur t ht
  unfold splitA at ht
  split at ht
  ·rcases List.mem_cons.1 ht with rfl | ht
   ·omega
   ·have := ih [] t ht; simp only [List.length_cons, List.length_nil] at *; omega
  ·have := ih (cur ++ [c]) t ht
   simp only [List.length_cons, List.length_append, List.length_nil] at *; omega
theorem Pth.split_len (s : Tx) : (split s).length ≤ s.length + 1 := splitA_len s []
theorem Pth.split_small {s t : Tx} (h : t ∈ split s) : t.length ≤ s.length := by have := splitA_small s [] t h; simpa using this
theorem ref_right (s : List UInt8) (w : World) (hs : s.length ≤ 100000) :
  Calls Tryz.prog 85 #[.string (mk s)] w fun e w' => e = .returned (.bool (decide (Pth.Right s))) ∧ Below w.heap.size w w' := by
 have HS := Lib.hid (ref_split s w hs)
 have HN : Hid (∀ t ∈ Pth.split s, ∀ W, Calls Tryz.prog 109 #[.string (mk t)] W fun e w' => e = .returned (.bool (decide (Pth.Name t))) ∧ Below W.heap.size W w') :=
  Lib.hid (fun t ht W => ref_name t W (by have := Pth.split_small ht; omega))
 have ls : (mk s).size = s.length := mk_len s
 have hll := Pth.split_len s
 have hR : decide (Pth.Right s) = true ↔ ((∀ t ∈ Pth.split s, Pth.Name t) ∧ s.length ≤ 40 ∧ (Pth.split s).length ≤ 6) := decide_eq_true_iff
 have HR := Lib.hid hR
 clear hR
 have Hlen := Lib.hid ls
 have hS : ((mk s).size : Int) ≤ 100000 := by rw [ls]; omega
 clear ls
 generalize decide (Pth.Right s) = R at *
 generalize Pth.split s = L at *
 generalize mk s = xs at *
 go_enter Tryz.func85, Tryz.ntmps85
 go_wp2_with (go_at_call 108; refine HS.out.mono ?_; rintro e w1 ⟨v, rfl, ⟨A, cap, rfl, hcap, hat⟩, hb⟩; rw [texts_len])
 rw [texts_len] at hcap hat
 have Hat := Lib.hid hat
 have Hb := Lib.hid hb
 clear hat hb
 have hL9 : (L.length : Int) ≤ 100001 := by omega
 go_loopw [4] (fun i wr => ∃ k : Nat, k ≤ L.length ∧ i = .int .i64 (k : Int) ∧ (∀ t ∈ L.take k, Pth.Name t) ∧ Below w1.heap.size w1 wr) (fun i _ => L.length - (intOf i).toNat)
 case atStart => exact ⟨0, Nat.zero_le _, rfl, by simp, Below.refl _ _⟩
 case round =>
  obtain ⟨k, hk, rfl, hall, hbel⟩ := hrel
  have Hall := Lib.hid hall
  have Hbel := Lib.hid hbel
  clear hall hbel
  have hk0 : (0 : Int) ≤ (k : Int) := by omega
  by_cases hlt : k < L.length
  ·have hk1 : (k : Int) < (L.length : Int) := by omega
   obtain ⟨ub, uo, rfl, -, hub, huk⟩ := Hat.out (by omega)
   obtain ⟨t, ht⟩ : ∃ t, L[k]? = some t := ⟨_, List.getElem?_eq_getElem hlt⟩
   obtain ⟨hl, he⟩ := List.getElem?_eq_some_iff.1 ht
   have hmem : t ∈ L := List.mem_of_getElem? ht
   have hc1 : wr.cell? ⟨ub, uo + k, none⟩ = some (.string (mk t)) := (Hbel.out.cell (p := ⟨ub, uo + k, none⟩) hub).trans (huk k _ (texts_at ht))
   have HNt := Lib.hid (HN.out t hmem wr)
   have htk : L.take (k + 1) = L.take k ++ [t] := by rw [List.take_succ_eq_append_getElem hl, he]
   clear huk ht he hl
   by_cases hn : Pth.Name t
   ·rw [decide_eq_true hn] at HNt
    have Hnext : Hid (∀ x ∈ L.take (k + 1), Pth.Name x) := Lib.hid (fun x hx => by
     rw [htk, List.mem_append] at hx
     rcases hx with hx | hx
     ·exact Hall.out x hx
     ·rw [List.mem_singleton.1 hx]; exact hn)
    clear hn htk hmem
    generalize mk t = y at *
    go_wp2_with (go_at_call 109; refine HNt.out.mono ?_; rintro e w2 ⟨rfl, hb2⟩)
    refine ⟨⟨k + 1, by omega, rfl, Hnext.out, Hbel.out.trans (hb2.mono Hbel.out.size)⟩, ?_⟩
    show L.length - ((k : Int) + 1).toNat < L.length - (k : Int).toNat
    omega
   ·rw [decide_eq_false hn] at HNt
    have HF : Hid (R = false) := Lib.hid (by
     cases R with
     | false => rfl
     | true => exact absurd ((HR.out.1 rfl).1 t hmem) hn)
    clear hn htk hmem
    generalize mk t = y at *
    go_wp2_with (go_at_call 109; refine HNt.out.mono ?_; rintro e w2 ⟨rfl, hb2⟩)
    go_ret
    exact ⟨by rw [HF.out]; rfl, Hb.out.trans ((Hbel.out.trans (hb2.mono Hbel.out.size)).mono Hb.out.size)⟩
  ·obtain rfl : k = L.length := by omega
   have Hall2 : Hid (∀ t ∈ L, Pth.Name t) := Lib.hid (by have := Hall.out; rw [List.take_length] at this; exact this)
   have hcase : (decide ((xs.size : Int) ≤ 40) = false ∧ Hid (R = false)) ∨ (decide ((xs.size : Int) ≤ 40) = true ∧ decide ((L.length : Int) ≤ 6) = false ∧ Hid (R = false)) ∨ (decide ((xs.size : Int) ≤ 40) = true ∧ decide ((L.length : Int) ≤ 6) = true ∧ Hid (R = true)) := by
    have e := Hlen.out
    by_cases h1 : s.length ≤ 40
    ·by_cases h2 : L.length ≤ 6
     ·exact Or.inr (Or.inr ⟨decide_eq_true (by omega), decide_eq_true (by omega), Lib.hid (HR.out.2 ⟨Hall2.out, h1, h2⟩)⟩)
     ·refine Or.inr (Or.inl ⟨decide_eq_true (by omega), decide_eq_false (by omega), Lib.hid ?_⟩)
      cases R with
      | false => rfl
      | true => exact absurd (HR.out.1 rfl).2.2 h2
    ·refine Or.inl ⟨decide_eq_false (by omega), Lib.hid ?_⟩
     cases R with
     | false => rfl
     | true => exact absurd (HR.out.1 rfl).2.1 h1
   rcases hcase with ⟨g1, hf⟩ | ⟨g1, g2, hf⟩ | ⟨g1, g2, hf⟩
   all_goals
    go_wp2_with fail
    go_ret
    exact ⟨by rw [hf.out]; rfl, Hb.out.trans (Hbel.out.mono Hb.out.size)⟩
open Go.RowKit
def ext (lo hi : Int) : List Sz.Rg := if lo ≤ hi then [(lo, hi)] else []
theorem ext_len (lo hi : Int) : (ext lo hi).length ≤ 1 := by unfold ext; split <;> simp
theorem rg_made (w : World) (t : TypeId) (lo hi : Int) : Rgs (w.alloc (.cells #[.int .i64 lo, .int .i64 hi] t)) (fun i => i = w.heap.size) (.slice (some ⟨w.heap.size, 0, none⟩) 1 1) [(lo, hi)] := by
 refine ⟨_, 1, rfl, Nat.le_refl _, fun _ => ⟨w.heap.size, 0, rfl, rfl, by simp, fun i x hx j u hu => ?_⟩⟩
 rw [(Row.made w _ _).at, Nat.zero_add]
 match i, hx with
 | 0, hx =>
  injection hx with hx
  subst hx
  match j, hu with
  | 0, hu => simpa [rgV] using hu
  | 1, hu => simpa [rgV] using hu
theorem sz_add {base : Nat} {v : Value} {l : List Sz.Rg} {w : World} (h : w.ownsRow base 85 2 v l.length (l.flatMap rgV)) (hb : base ≤ w.heap.size) (hl : l.length ≤ 1000000) (lo hi : Int) :
  Calls Tryz.prog 149 #[v, .int .i64 lo, .int .i64 hi] w fun e w' => ∃ v', e = .returned v' ∧ w'.ownsRow base 85 2 v' (l ++ ext lo hi).length ((l ++ ext lo hi).flatMap rgV) ∧ w.grownBy w' v.ownBlock ∧ Near w v v' := by
 obtain ⟨i0, hi0, hz0, hz1, hz2⟩ := info_parts rangeInfo
 by_cases hlt : hi < lo
 ·have hx : Hid (ext lo hi = []) := Lib.hid (by unfold ext; rw [if_neg (by omega)])
  have H := Lib.hid h
  clear h
  go_enter Tryz.func149, Tryz.ntmps149
  go_wp2_with fail
  go_ret
  exact ⟨v, rfl, by rw [hx.out, List.append_nil]; exact H.out, ⟨rfl, rfl, rfl, Nat.le_refl _, fun _ _ _ => rfl⟩, Near.refl _ _⟩
 ·have hx : Hid (ext lo hi = [(lo, hi)]) := Lib.hid (by unfold ext; rw [if_pos (by omega)])
  have hown := h.alloc (.cells #[.int .i64 lo, .int .i64 hi] 85)
  have hmade := rg_made w 85 lo hi
  have hsz : base ≤ (w.alloc (.cells #[.int .i64 lo, .int .i64 hi] 85)).heap.size := by simp; omega
  have hfin : Hid (∀ v' w', w'.ownsRow base 85 2 v' (l.length + 1) (l.flatMap rgV ++ [(lo, hi)].flatMap rgV) → (w.alloc (.cells #[.int .i64 lo, .int .i64 hi] 85)).grownBy w' v.ownBlock → Near (w.alloc (.cells #[.int .i64 lo, .int .i64 hi] 85)) v v' →
    w'.ownsRow base 85 2 v' (l ++ ext lo hi).length ((l ++ ext lo hi).flatMap rgV) ∧ w.grownBy w' v.ownBlock ∧ Near w v v') := Lib.hid (by
   intro v' w' h1 h2 h3
   rw [hx.out, List.length_append, List.flatMap_append]
   refine ⟨h1, ⟨h2.os, h2.tape, h2.output, by have := h2.size; simp at this; omega, fun k hk hn => (h2.block k (by simp; omega) hn).trans (Below.heap_alloc w _ k hk)⟩, ?_⟩
   rcases h3 with h3 | h3
   ·exact Or.inl h3
   ·exact Or.inr (fun g hg => by have := h3 g hg; simp at this; omega))
  clear h hx
  go_enter Tryz.func149, Tryz.ntmps149
  go_wp2_with (at_builtin; refine wp_joins (f := rgV) (k := 2) rfl _ _ 82 rfl base 85 i0 (.agg #[.int .i64 0, .int .i64 0]) 16 Tryz.underlying82 hi0 hz0 hz1 hz2 rfl (by decide) rfl rfl hown hmade (fun _ _ => rfl) (fun x _ => rg_one x) ?c3 ?c4 hsz ?_)
  case c3 => unfold maxLen; first | omega | (simp; omega)
  case c4 => first | omega | (simp; omega)
  intro v' w' h1 h2 h3
  have Hend := Lib.hid (hfin.out v' w' h1 h2 h3)
  clear h1 h2 h3 hown hmade hfin
  go_wp2
  go_ret
  exact ⟨v', rfl, Hend.out⟩
open Go.RowKit
theorem str_empty (p : List UInt8) : (mk p).toList.isEmpty = decide (p = []) := by rw [Lib.toList_data, mk_data]; cases p <;> rfl
theorem str_nil (p : List UInt8) : ((mk p).toList == []) = decide (p = []) := by rw [Lib.toList_data, mk_data]; cases p <;> rfl
theorem str_same (p q : List UInt8) : ((mk p).toList == (mk q).toList) = decide (p = q) := by
 rw [Lib.toList_data, Lib.toList_data, mk_data, mk_data]
 by_cases h : p = q
 ·rw [h, decide_eq_true rfl]; exact beq_self_eq_true _
 ·rw [decide_eq_false h, beq_eq_false_iff_ne]; exact h
theorem ref_fright (c : Flt.Cl) (w : World) (hp : c.pre.length ≤ 100000) :
  Calls Tryz.prog 50 #[.agg #[.string (mk c.pre), .int .i64 c.lo, .int .i64 c.hi]] w fun e w' => e = .returned (.bool (decide (Flt.Right c))) ∧ Below w.heap.size w w' := by
 obtain ⟨p, lo, hi⟩ := c
 simp only at hp ⊢
 have ia := str_empty p
 have ea := str_nil p
 have R := Lib.hid (fun W => ref_right p W hp)
 have hD : Hid (decide (Flt.Right ⟨p, lo, hi⟩) = ((decide (p = []) || decide (Pth.Right p)) && (decide (0 ≤ lo) && (decide (lo ≤ hi) && decide (hi ≤ 200))))) := Lib.hid (by rw [Bool.eq_iff_iff]; refine decide_eq_true_iff.trans ?_; simp only [Flt.Right, decide_eq_true_iff, Bool.and_eq_true, Bool.or_eq_true])
 generalize hE : decide (p = []) = d0 at ia ea hD
 generalize decide (Pth.Right p) = d1 at *
 generalize e1 : decide ((0 : Int) ≤ lo) = d2 at hD
 generalize e2 : decide (lo ≤ hi) = d3 at hD
 generalize e3 : decide (hi ≤ (200 : Int)) = d4 at hD
 generalize decide (Flt.Right ⟨p, lo, hi⟩) = D at *
 clear hE
 generalize mk p = x at *
 cases d0
 ·cases d1
  ·go_enter Tryz.func50, Tryz.ntmps50
   go_wp2_with fail
   refine (R.out _).mono ?_
   rintro e w1 ⟨rfl, hb1⟩
   go_wp2_with fail
   go_ret
   exact ⟨by rw [hD.out]; rfl, ((Below.refl _ _).alloc (Nat.le_refl _) _).trans (hb1.mono (by simp))⟩
  ·cases d2
   ·go_enter Tryz.func50, Tryz.ntmps50
    go_wp2_with fail
    refine (R.out _).mono ?_
    rintro e w1 ⟨rfl, hb1⟩
    have q1 : w1.cell? ⟨w.heap.size, 1, none⟩ = some (.int .i64 lo) := (hb1.cell (p := ⟨w.heap.size, 1, none⟩) (by simp)).trans ((Row.made w 87 #[.string x, .int .i64 lo, .int .i64 hi]).at 1)
    have q2 : w1.cell? ⟨w.heap.size, 2, none⟩ = some (.int .i64 hi) := (hb1.cell (p := ⟨w.heap.size, 2, none⟩) (by simp)).trans ((Row.made w 87 #[.string x, .int .i64 lo, .int .i64 hi]).at 2)
    go_wp2_with fail
    go_ret
    exact ⟨by rw [hD.out]; rfl, ((Below.refl _ _).alloc (Nat.le_refl _) _).trans (hb1.mono (by simp))⟩
   ·cases d3
    ·go_enter Tryz.func50, Tryz.ntmps50
     go_wp2_with fail
     refine (R.out _).mono ?_
     rintro e w1 ⟨rfl, hb1⟩
     have q1 : w1.cell? ⟨w.heap.size, 1, none⟩ = some (.int .i64 lo) := (hb1.cell (p := ⟨w.heap.size, 1, none⟩) (by simp)).trans ((Row.made w 87 #[.string x, .int .i64 lo, .int .i64 hi]).at 1)
     have q2 : w1.cell? ⟨w.heap.size, 2, none⟩ = some (.int .i64 hi) := (hb1.cell (p := ⟨w.heap.size, 2, none⟩) (by simp)).trans ((Row.made w 87 #[.string x, .int .i64 lo, .int .i64 hi]).at 2)
     go_wp2_with fail
     go_ret
     exact ⟨by rw [hD.out]; rfl, ((Below.refl _ _).alloc (Nat.le_refl _) _).trans (hb1.mono (by simp))⟩
    ·cases d4
     ·go_enter Tryz.func50, Tryz.ntmps50
      go_wp2_with fail
      refine (R.out _).mono ?_
      rintro e w1 ⟨rfl, hb1⟩
      have q1 : w1.cell? ⟨w.heap.size, 1, none⟩ = some (.int .i64 lo) := (hb1.cell (p := ⟨w.heap.size, 1, none⟩) (by simp)).trans ((Row.made w 87 #[.string x, .int .i64 lo, .int .i64 hi]).at 1)
      have q2 : w1.cell? ⟨w.heap.size, 2, none⟩ = some (.int .i64 hi) := (hb1.cell (p := ⟨w.heap.size, 2, none⟩) (by simp)).trans ((Row.made w 87 #[.string x, .int .i64 lo, .int .i64 hi]).at 2)
      go_wp2_with fail
      go_ret
      exact ⟨by rw [hD.out]; rfl, ((Below.refl _ _).alloc (Nat.le_refl _) _).trans (hb1.mono (by simp))⟩
     ·go_enter Tryz.func50, Tryz.ntmps50
      go_wp2_with fail
      refine (R.out _).mono ?_
      rintro e w1 ⟨rfl, hb1⟩
      have q1 : w1.cell? ⟨w.heap.size, 1, none⟩ = some (.int .i64 lo) := (hb1.cell (p := ⟨w.heap.size, 1, none⟩) (by simp)).trans ((Row.made w 87 #[.string x, .int .i64 lo, .int .i64 hi]).at 1)
      have q2 : w1.cell? ⟨w.heap.size, 2, none⟩ = some (.int .i64 hi) := (hb1.cell (p := ⟨w.heap.size, 2, none⟩) (by simp)).trans ((Row.made w 87 #[.string x, .int .i64 lo, .int .i64 hi]).at 2)
      go_wp2_with fail
      go_ret
      exact ⟨by rw [hD.out]; rfl, ((Below.refl _ _).alloc (Nat.le_refl _) _).trans (hb1.mono (by simp))⟩
 ·cases d2
  ·go_enter Tryz.func50, Tryz.ntmps50
   go_wp2_with fail
   go_ret
   exact ⟨by rw [hD.out]; rfl, (Below.refl _ _).alloc (Nat.le_refl _) _⟩
  ·cases d3
   ·go_enter Tryz.func50, Tryz.ntmps50
    go_wp2_with fail
    go_ret
    exact ⟨by rw [hD.out]; rfl, (Below.refl _ _).alloc (Nat.le_refl _) _⟩
   ·cases d4
    ·go_enter Tryz.func50, Tryz.ntmps50
     go_wp2_with fail
     go_ret
     exact ⟨by rw [hD.out]; rfl, (Below.refl _ _).alloc (Nat.le_refl _) _⟩
    ·go_enter Tryz.func50, Tryz.ntmps50
     go_wp2_with fail
     go_ret
     exact ⟨by rw [hD.out]; rfl, (Below.refl _ _).alloc (Nat.le_refl _) _⟩
theorem clauseInfo : (Tryz.prog.info? 87).map (fun i => (i.zero, i.size, i.bytes)) = some (some (.agg #[.string ⟨#[]⟩, .int .i64 0, .int .i64 0]), 3, 32) := by kernel_rfl
theorem cl_made (w : World) (t : TypeId) (p : List UInt8) (lo hi : Int) : Cls (w.alloc (.cells #[.string (mk p), .int .i64 lo, .int .i64 hi] t)) (fun i => i = w.heap.size) (.slice (some ⟨w.heap.size, 0, none⟩) 1 1) [⟨p, lo, hi⟩] := by
 refine ⟨_, 1, rfl, Nat.le_refl _, fun _ => ⟨w.heap.size, 0, rfl, rfl, by simp, fun i x hx j u hu => ?_⟩⟩
 rw [(Row.made w _ _).at, Nat.zero_add]
 match i, hx with
 | 0, hx =>
  injection hx with hx
  subst hx
  match j, hu with
  | 0, hu => simpa [clV] using hu
  | 1, hu => simpa [clV] using hu
  | 2, hu => simpa [clV] using hu
theorem Flt.sizes_take {f : List Flt.Cl} {n : Nat} {c : Flt.Cl} (hc : f[n]? = some c) (p : List UInt8) : Flt.sizes (f.take (n + 1)) p = Flt.sizes (f.take n) p ++ if Pth.Covers c.pre p then [Flt.rg c] else [] := by
 obtain ⟨hl, he⟩ := List.getElem?_eq_some_iff.1 hc
 rw [List.take_succ_eq_append_getElem hl, he]
 unfold Flt.sizes
 rw [List.filter_append, List.map_append]
 congr 1
 by_cases h : Pth.Covers c.pre p <;> simp [h]
theorem Flt.sizes_len (f : List Flt.Cl) (p : List UInt8) : (Flt.sizes f p).length ≤ f.length := by unfold Flt.sizes; rw [List.length_map]; exact List.length_filter_le _ _
theorem Flt.above_take {f : List Flt.Cl} {n : Nat} {c : Flt.Cl} (hc : f[n]? = some c) (p : List UInt8) : Flt.above (f.take (n + 1)) p = Flt.above (f.take n) p ++ if c.pre ≠ p ∧ Pth.Covers c.pre p then [c] else [] := by
 obtain ⟨hl, he⟩ := List.getElem?_eq_some_iff.1 hc
 rw [List.take_succ_eq_append_getElem hl, he]
 unfold Flt.above
 rw [List.filter_append]
 congr 1
 by_cases h : c.pre ≠ p ∧ Pth.Covers c.pre p <;> simp [h]
theorem Flt.len_take {n : Nat} (f : List Flt.Cl) : (f.take n).length ≤ n := by rw [List.length_take]; omega
theorem ref_fsizes {w : World} {F : Nat → Prop} {v : Value} {f : List Flt.Cl} {p : List UInt8} (h : Cls w F v f) (hl : f.length ≤ 1000000) (hp : p.length ≤ 100000) (hs : ∀ c ∈ f, c.pre.length ≤ 100000) :
  Calls Tryz.prog 84 #[v, .string (mk p)] w fun e w' => ∃ v', e = .returned v' ∧ RowsOwn 85 2 rgV w (Flt.sizes f p) v' w' := by
 obtain ⟨A, cap, rfl, hcap⟩ := h.parts
 obtain ⟨i0, hi0, hz0, hz1, hz2⟩ := info_parts rangeInfo
 have H := Lib.hid h
 have HS := Lib.hid hs
 have COV := Lib.hid (fun (q : List UInt8) (hq : q.length ≤ 100000) (W : World) => ref_covers q p W hq hp)
 have hl' : (f.length : Int) ≤ 1000000 := by omega
 clear h hs
 go_enter Tryz.func84, Tryz.ntmps84
 go_wp2_with fail
 go_loopw [5, 6] (fun out i wr => ∃ n : Nat, n ≤ f.length ∧ i = .int .i64 (n : Int) ∧ RowsOwn 85 2 rgV w (Flt.sizes (f.take n) p) out wr) (fun _ i _ => f.length - (intOf i).toNat)
 case atStart => exact ⟨0, Nat.zero_le _, rfl, RowsOwn.start _ _ _ w⟩
 case round =>
  obtain ⟨n, hn, rfl, hown⟩ := hrel
  by_cases hlt : n < f.length
  ·obtain ⟨b, o, cap', e, -, -, hb⟩ := H.out.block (by omega)
   injection e with e1 e2 e3
   subst e1 e3
   clear e2
   obtain ⟨x, hx⟩ : ∃ x, f[n]? = some x := ⟨_, List.getElem?_eq_getElem hlt⟩
   have hpx := HS.out x (List.mem_of_getElem? hx)
   have hn0 : (0 : Int) ≤ (n : Int) := by omega
   have hn1 : (n : Int) < (f.length : Int) := by omega
   have CA : Hid (∀ W, Below w.heap.size w W → W.cell? ⟨b, o + n * 3, none⟩ = some (.string (mk x.pre)) ∧ W.cell? ⟨b, o + n * 3 + 1, none⟩ = some (.int .i64 x.lo) ∧ W.cell? ⟨b, o + n * 3 + 2, none⟩ = some (.int .i64 x.hi)) := Lib.hid (fun W hW => Cls.at (H.out.below hW) hx)
   obtain ⟨c0, c1, c2⟩ := CA.out wr hown.2
   have hst := Lib.hid (Flt.sizes_take hx p)
   have hlen := Lib.hid (Flt.sizes_len (f.take n) p)
   have hlen2 := Flt.len_take (n := n) f
   obtain ⟨xp, x1, x2⟩ := x
   simp only at c0 c1 c2 hpx CA
   have CV := Lib.hid (COV.out xp hpx)
   have Hown := Lib.hid hown
   clear hown hx COV
   cases hcv : decide (Pth.Covers xp p)
   ·rw [hcv] at CV
    have hst' : Hid (Flt.sizes (f.take (n + 1)) p = Flt.sizes (f.take n) p) := Lib.hid (by rw [hst.out, if_neg (of_decide_eq_false hcv), List.append_nil])
    clear hst hcv
    go_wp2_with fail
    refine (CV.out _).mono ?_
    rintro e w1 ⟨rfl, hb1⟩
    have hnew := Lib.hid (Hown.out.below hb1)
    clear hb1
    go_wp2_with fail
    exact ⟨⟨n + 1, by omega, by go_num, by rw [hst'.out]; exact hnew.out⟩, by show f.length - ((n : Int) + 1).toNat < f.length - (n : Int).toNat; omega⟩
   ·rw [hcv] at CV
    have hst' : Hid (Flt.sizes (f.take (n + 1)) p = Flt.sizes (f.take n) p ++ [(x1, x2)]) := Lib.hid (by rw [hst.out, if_pos (of_decide_eq_true hcv)]; rfl)
    have hlen3 : (Flt.sizes (f.take n) p).length ≤ n := Nat.le_trans hlen.out hlen2
    clear hst hcv
    generalize Flt.sizes (f.take n) p = out at *
    go_wp2_with fail
    refine (CV.out _).mono ?_
    rintro e w1 ⟨rfl, hb1⟩
    have Hown2 := Lib.hid (Hown.out.below hb1)
    obtain ⟨d0, d1, d2⟩ := CA.out w1 Hown2.out.2
    have d3 : w1.cell? ⟨b, o + n * 3 + 1 + 1, none⟩ = some (.int .i64 x2) := d2
    clear hb1 c0 c1 c2
    have hown3 := Hown2.out.1.alloc (.cells #[.int .i64 x1, .int .i64 x2] 85)
    have hmade := rg_made w1 85 x1 x2
    have hsz3 : w.heap.size ≤ (w1.alloc (.cells #[.int .i64 x1, .int .i64 x2] 85)).heap.size := by have := Hown2.out.2.size; simp; omega
    go_wp2_with (at_builtin; refine wp_joins (f := rgV) (k := 2) rfl _ _ 82 rfl (w.heap.size) 85 i0 (.agg #[.int .i64 0, .int .i64 0]) 16 Tryz.underlying82 hi0 hz0 hz1 hz2 rfl (by decide) rfl rfl hown3 hmade (fun _ _ => rfl) (fun x _ => rg_one x) ?c3 ?c4 hsz3 ?_)
    case c3 => unfold maxLen; first | omega | (simp <;> omega)
    case c4 => first | omega | (simp <;> omega)
    intro v3 w3 h1 h2 _
    have hnew := Lib.hid (Hown2.out.more (x := (x1, x2)) (v' := v3) (by simpa using h1) h2)
    clear h1 h2 hown3 hmade
    go_wp2_with fail
    exact ⟨⟨n + 1, by omega, by go_num, by rw [hst'.out]; exact hnew.out⟩, by show f.length - ((n : Int) + 1).toNat < f.length - (n : Int).toNat; omega⟩
  ·obtain rfl : n = f.length := by omega
   rw [List.take_length] at hown
   have Hown := Lib.hid hown
   clear hown
   go_wp2_with fail
   go_ret
   exact ⟨_, rfl, Hown.out⟩
theorem ref_above {w : World} {F : Nat → Prop} {v : Value} {f : List Flt.Cl} {p : List UInt8} (h : Cls w F v f) (hl : f.length ≤ 1000000) (hp : p.length ≤ 100000) (hs : ∀ c ∈ f, c.pre.length ≤ 100000) :
  Calls Tryz.prog 87 #[v, .string (mk p)] w fun e w' => ∃ v', e = .returned v' ∧ RowsOwn 87 3 clV w (Flt.above f p) v' w' := by
 obtain ⟨A, cap, rfl, hcap⟩ := h.parts
 obtain ⟨i0, hi0, hz0, hz1, hz2⟩ := info_parts clauseInfo
 have H := Lib.hid h
 have HS := Lib.hid hs
 have COV := Lib.hid (fun (q : List UInt8) (hq : q.length ≤ 100000) (W : World) => ref_covers q p W hq hp)
 have hl' : (f.length : Int) ≤ 1000000 := by omega
 clear h hs
 go_enter Tryz.func87, Tryz.ntmps87
 go_wp2_with fail
 go_loopw [5, 6] (fun out i wr => ∃ n : Nat, n ≤ f.length ∧ i = .int .i64 (n : Int) ∧ RowsOwn 87 3 clV w (Flt.above (f.take n) p) out wr) (fun _ i _ => f.length - (intOf i).toNat)
 case atStart => exact ⟨0, Nat.zero_le _, rfl, RowsOwn.start _ _ _ w⟩
 case round =>
  obtain ⟨n, hn, rfl, hown⟩ := hrel
  by_cases hlt : n < f.length
  ·obtain ⟨b, o, cap', e, -, -, hb⟩ := H.out.block (by omega)
   injection e with e1 e2 e3
   subst e1 e3
   clear e2
   obtain ⟨x, hx⟩ : ∃ x, f[n]? = some x := ⟨_, List.getElem?_eq_getElem hlt⟩
   have hpx := HS.out x (List.mem_of_getElem? hx)
   have hn0 : (0 : Int) ≤ (n : Int) := by omega
   have hn1 : (n : Int) < (f.length : Int) := by omega
   have CA : Hid (∀ W, Below w.heap.size w W → W.cell? ⟨b, o + n * 3, none⟩ = some (.string (mk x.pre)) ∧ W.cell? ⟨b, o + n * 3 + 1, none⟩ = some (.int .i64 x.lo) ∧ W.cell? ⟨b, o + n * 3 + 2, none⟩ = some (.int .i64 x.hi)) := Lib.hid (fun W hW => Cls.at (H.out.below hW) hx)
   obtain ⟨c0, c1, c2⟩ := CA.out wr hown.2
   have hst := Lib.hid (Flt.above_take hx p)
   have hlen : Hid ((Flt.above (f.take n) p).length ≤ n) := Lib.hid (Nat.le_trans (List.length_filter_le _ _) (Flt.len_take f))
   obtain ⟨xp, x1, x2⟩ := x
   simp only at c0 c1 c2 hpx CA
   have CV := Lib.hid (COV.out xp hpx)
   have es := str_same xp p
   have Hown := Lib.hid hown
   clear hown hx COV
   cases heq : decide (xp = p)
   ·rw [heq] at es
    cases hcv : decide (Pth.Covers xp p)
    ·rw [hcv] at CV
     have hst' : Hid (Flt.above (f.take (n + 1)) p = Flt.above (f.take n) p) := Lib.hid (by rw [hst.out, if_neg (fun h => of_decide_eq_false hcv h.2), List.append_nil])
     clear hst hcv heq
     generalize mk xp = xs at *
     generalize mk p = ps at *
     go_wp2_with fail
     refine (CV.out _).mono ?_
     rintro e w1 ⟨rfl, hb1⟩
     have hnew := Lib.hid (Hown.out.below hb1)
     clear hb1
     go_wp2_with fail
     exact ⟨⟨n + 1, by omega, by go_num, by rw [hst'.out]; exact hnew.out⟩, by show f.length - ((n : Int) + 1).toNat < f.length - (n : Int).toNat; omega⟩
    ·rw [hcv] at CV
     have hst' : Hid (Flt.above (f.take (n + 1)) p = Flt.above (f.take n) p ++ [⟨xp, x1, x2⟩]) := Lib.hid (by rw [hst.out, if_pos ⟨of_decide_eq_false heq, of_decide_eq_true hcv⟩])
     have hlen3 := hlen.out
     clear hst hcv heq
     generalize Flt.above (f.take n) p = out at *
     have hmd := Lib.hid (fun W => cl_made W 87 xp x1 x2)
     generalize hxs : mk xp = xs at *
     have Hxs := Lib.hid hxs
     clear hxs
     generalize mk p = ps at *
     go_wp2_with fail
     refine (CV.out _).mono ?_
     rintro e w1 ⟨rfl, hb1⟩
     have Hown2 := Lib.hid (Hown.out.below hb1)
     obtain ⟨d0, d1, d2⟩ := CA.out w1 Hown2.out.2
     clear hb1 c0 c1 c2
     have hown3 := Hown2.out.1.alloc (.cells #[.string xs, .int .i64 x1, .int .i64 x2] 87)
     have hmade := hmd.out w1
     have hsz3 : w.heap.size ≤ (w1.alloc (.cells #[.string xs, .int .i64 x1, .int .i64 x2] 87)).heap.size := by have := Hown2.out.2.size; simp; omega
     go_wp2_with (at_builtin; refine wp_joins (f := clV) (k := 3) rfl _ _ 26 rfl (w.heap.size) 87 i0 (.agg #[.string ⟨#[]⟩, .int .i64 0, .int .i64 0]) 32 Tryz.underlying26 hi0 hz0 hz1 hz2 rfl (by decide) rfl rfl hown3 hmade (fun _ _ => rfl) (fun x _ => cl_one x) ?c3 ?c4 hsz3 ?_)
     case c3 => unfold maxLen; first | omega | (simp <;> omega)
     case c4 => first | omega | (simp <;> omega)
     intro v3 w3 h1 h2 _
     have hnew := Lib.hid (Hown2.out.more (x := (⟨xp, x1, x2⟩ : Flt.Cl)) (v' := v3) (by simpa [clV, Hxs.out] using h1) h2)
     clear h1 h2 hown3 hmade
     go_wp2_with fail
     exact ⟨⟨n + 1, by omega, by go_num, by rw [hst'.out]; exact hnew.out⟩, by show f.length - ((n : Int) + 1).toNat < f.length - (n : Int).toNat; omega⟩
   ·rw [heq] at es
    have hst' : Hid (Flt.above (f.take (n + 1)) p = Flt.above (f.take n) p) := Lib.hid (by rw [hst.out, if_neg (fun h => h.1 (of_decide_eq_true heq)), List.append_nil])
    have hnew := Hown
    clear hst heq
    generalize mk xp = xs at *
    generalize mk p = ps at *
    go_wp2_with fail
    exact ⟨⟨n + 1, by omega, by go_num, by rw [hst'.out]; exact hnew.out⟩, by show f.length - ((n : Int) + 1).toNat < f.length - (n : Int).toNat; omega⟩
  ·obtain rfl : n = f.length := by omega
   rw [List.take_length] at hown
   have Hown := Lib.hid hown
   clear hown
   go_wp2_with fail
   go_ret
   exact ⟨_, rfl, Hown.out⟩
end Go.Proofs.YtkcgmnhjofoeiaaGreat
namespace Go.Proofs.YtkcgmnhjofoeiaaGreat.Pth
def lens : List Tx → Nat
 | [] => 0
 | t :: l => t.length + 1 + lens l
def Next (d : List Tx) (t : Tx) : Prop := Name t ∧ (0 : Int) ≤ (6 - (d.length : Int)) - 1 ∧ (0 : Int) ≤ (41 - (lens d : Int)) - ((t.length : Int) + 1)
instance (d : List Tx) (t : Tx) : Decidable (Next d t) := inferInstanceAs (Decidable (_ ∧ _))
theorem parentTo_at {a : Tx} {i : Nat} (hi : a[i]? = some 47) : ∀ n, i < n → (∀ j, i < j → j < n → a[j]? ≠ some 47) → parentTo a n = a.take i
 | 0, h, _ => absurd h (by omega)
 | n + 1, h, hj => by
  unfold parentTo
  by_cases hn : i = n
  ·subst hn; rw [if_pos hi]
  ·rw [if_neg (hj n (by omega) (by omega))]
   exact parentTo_at hi n (by omega) (fun j h1 h2 => hj j h1 (by omega))
theorem parentTo_no {a : Tx} : ∀ n, (∀ j, j < n → a[j]? ≠ some 47) → parentTo a n = []
 | 0, _ => rfl
 | n + 1, hj => by
  unfold parentTo
  rw [if_neg (hj n (by omega))]
  exact parentTo_no n (fun j h => hj j (by omega))
theorem last_cases (s : ByteArray) : (Lib.lastIndexByte s 47 = -1 ∧ parent s.data.toList = []) ∨ ∃ i : Nat, i ≤ s.size ∧ Lib.lastIndexByte s 47 = (i : Int) ∧ parent s.data.toList = s.data.toList.take i := by
 have key : ∀ j, j < s.size → (s.data.toList[j]? = some 47 ↔ ((s.data[j]!).toNat : Int) = 47) := by
  intro j hj
  have hj' : j < s.data.size := hj
  rw [Array.getElem?_toList, Array.getElem?_eq_getElem hj', getElem!_pos s.data j hj']
  constructor
  ·intro h; injection h with h; rw [h]; rfl
  ·intro h
   congr 1
   apply UInt8.toNat_inj.1
   show _ = 47
   omega
 have hl : s.data.toList.length = s.size := (Lib.size_eq s).symm
 unfold parent
 rw [hl]
 rcases Lib.lastIdx_spec s 47 s.size with ⟨h1, h2⟩ | ⟨i, hi, h1, h2, h3⟩
 ·refine Or.inl ⟨h1, parentTo_no _ (fun j hj e => h2 j hj ((key j hj).1 e))⟩
 ·refine Or.inr ⟨i, by omega, h1, parentTo_at ((key i hi).2 h2) _ hi (fun j h4 h5 e => h3 j h4 h5 ((key j h5).1 e))⟩
end Go.Proofs.YtkcgmnhjofoeiaaGreat.Pth
namespace Go.Proofs.YtkcgmnhjofoeiaaGreat
open Go.RowKit
open Go.RowKit
def cnt (d : List (List UInt8)) : Value := .int .i64 (6 - (d.length : Int))
def room (d : List (List UInt8)) : Value := .int .i64 (41 - (Pth.lens d : Int))
open Go.RowKit
theorem extract_mk (l : List UInt8) (i j : Nat) : (mk l).extract i j = mk ((l.drop i).take (j - i)) := bytes_ext (by rw [Lib.extract_data, mk_data, mk_data])
theorem pth_parent (a : List UInt8) (w : World) (ha : a.length ≤ 100000) :
  Calls Tryz.prog 101 #[.string (mk a)] w fun e w' => e = .returned (.string (mk (Pth.parent a))) ∧ Below w.heap.size w w' := by
 have HL := fun W => Tryz.strings_LastIndex_one (mk a) ⟨#[47]⟩ rfl (by rw [mk_len]; omega) W
 have ls : (mk a).size = a.length := mk_len a
 rcases Pth.last_cases (mk a) with ⟨h1, h2⟩ | ⟨i, hi, h1, h2⟩
 ·rw [mk_data] at h2
  have HL : Hid (∀ W, Calls Tryz.prog 124 #[.string (mk a), .string ⟨#[47]⟩] W fun e w' => e = .returned (.int .i64 (-1)) ∧ w' = W) := Lib.hid (fun W => (HL W).mono (fun e w' hh => ⟨by rw [hh.1]; exact congrArg (fun n => Ending.returned (.int .i64 n)) h1, hh.2⟩))
  rw [h2]
  have x1 : Hid ((mk a).extract 0 0 = mk []) := Lib.hid (by rw [extract_mk]; simp)
  have g4 : ((mk a).size : Int) ≤ 100000 := by omega
  clear h1 h2 ls
  generalize mk a = x at *
  go_enter Tryz.func101, Tryz.ntmps101
  go_wp2_with (go_at_call 124; refine (HL.out _).mono ?_; rintro e w1 ⟨rfl, rfl⟩)
  go_ret
  exact ⟨by show Ending.returned (.string (x.extract 0 (max (-1) 0 : Int).toNat)) = _; rw [show (max (-1) 0 : Int).toNat = 0 from rfl, x1.out], Below.refl _ _⟩
 ·rw [mk_data] at h2
  have HL : Hid (∀ W, Calls Tryz.prog 124 #[.string (mk a), .string ⟨#[47]⟩] W fun e w' => e = .returned (.int .i64 (i : Int)) ∧ w' = W) := Lib.hid (fun W => (HL W).mono (fun e w' hh => ⟨by rw [hh.1]; exact congrArg (fun n => Ending.returned (.int .i64 n)) h1, hh.2⟩))
  rw [h2]
  have x1 : Hid ((mk a).extract 0 i = mk (a.take i)) := Lib.hid (by rw [extract_mk]; simp)
  have g1 : (0 : Int) ≤ (i : Int) := by omega
  have g2 : (i : Int) ≤ ((mk a).size : Int) := by omega
  have g4 : ((mk a).size : Int) ≤ 100000 := by omega
  clear h1 h2 ls hi
  generalize mk a = x at *
  go_enter Tryz.func101, Tryz.ntmps101
  go_wp2_with (go_at_call 124; refine (HL.out _).mono ?_; rintro e w1 ⟨rfl, rfl⟩)
  go_ret
  exact ⟨by rw [← x1.out]; rfl, Below.refl _ _⟩
end Go.Proofs.YtkcgmnhjofoeiaaGreat
