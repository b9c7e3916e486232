import Derived.Test.YtpafpegcodempaaGreatCom8
import Derived.Test.YtpafpegcodempaaGreatCom5
import Derived.Test.YtpafpegcodempaaGreatCom6
import Derived.BigQuiet
set_option maxRecDepth 100000
set_option linter.all false
set_option maxHeartbeats 12800000
namespace Go.Proofs.YtpafpegcodempaaGreat
open Go.RowKit
theorem Pth.splitA_len (s : Tx) : ∀ cur, (splitA cur s).length ≤ s.length + 1 := by
 induction s with
 | nil => intro cur; simp [splitA]
 | cons c s ih =>
  intro cur
  unfold splitA
  split
  ·simp only [List.length_cons]; have := ih []; omega
  ·have := ih (cur ++ [c]); simp only [List.length_cons]; omega
theorem Pth.splitA_small (s : Tx) : ∀ cur, ∀ t ∈ splitA cur s, t.length ≤ cur.length + s.length := by
 induction s with
 | nil => intro cur t ht; simp [splitA] at ht; rw [ht]; simp
 | cons c s ih =>
  intro cur t ht
  unfold splitA at ht
  split at ht
  ·rcases List.mem_cons.1 ht with rfl | ht
   ·omega
   ·have := ih [] t ht; simp only [List.length_cons, List.length_nil] at *; omega
  ·have := ih (cur ++ [c]) t ht
   simp only [List.length_cons, List.length_append, List.length_nil] at *; omega
theorem Pth.split_len (s : Tx) : (split s).length ≤ s.length + 1 := splitA_len s []
theorem Pth.split_small {s t : Tx} (h : t ∈ split s) : t.length ≤ s.length := by have := splitA_small s [] t h; simpa using this
theorem ref_right (s : List UInt8) (w : World) (hs : s.length ≤ 100000) :
  Calls Tryz.prog 151 #[.string (mk s)] w fun e w' => e = .returned (.bool (decide (Pth.Right s))) ∧ Below w.heap.size w w' := by
 have HS := Lib.hid (ref_split s w hs)
 have HN : Hid (∀ t ∈ Pth.split s, ∀ W, Calls Tryz.prog 256 #[.string (mk t)] W fun e w' => e = .returned (.bool (decide (Pth.Name t))) ∧ Below W.heap.size W w') :=
  Lib.hid (fun t ht W => ref_name t W (by have := Pth.split_small ht; omega))
 have ls : (mk s).size = s.length := mk_len s
 have hll := Pth.split_len s
 have hR : decide (Pth.Right s) = true ↔ ((∀ t ∈ Pth.split s, Pth.Name t) ∧ s.length ≤ 40 ∧ (Pth.split s).length ≤ 6) := decide_eq_true_iff
 have HR := Lib.hid hR
 clear hR
 have Hlen := Lib.hid ls
 have hS : ((mk s).size : Int) ≤ 100000 := by rw [ls]; omega
 clear ls
 generalize decide (Pth.Right s) = R at *
 generalize Pth.split s = L at *
 generalize mk s = xs at *
 go_enter Tryz.func151, Tryz.ntmps151
 go_wp2_with (go_at_call 255; refine HS.out.mono ?_; rintro e w1 ⟨v, rfl, ⟨A, cap, rfl, hcap, hat⟩, hb⟩; rw [texts_len])
 rw [texts_len] at hcap hat
 have Hat := Lib.hid hat
 have Hb := Lib.hid hb
 clear hat hb
 have hL9 : (L.length : Int) ≤ 100001 := by omega
 go_loopw [4] (fun i wr => ∃ k : Nat, k ≤ L.length ∧ i = .int .i64 (k : Int) ∧ (∀ t ∈ L.take k, Pth.Name t) ∧ Below w1.heap.size w1 wr) (fun i _ => L.length - (intOf i).toNat)
 case atStart => exact ⟨0, Nat.zero_le _, rfl, by simp, Below.refl _ _⟩
 case round =>
  obtain ⟨k, hk, rfl, hall, hbel⟩ := hrel
  have Hall := Lib.hid hall
  have Hbel := Lib.hid hbel
  clear hall hbel
  have hk0 : (0 : Int) ≤ (k : Int) := by omega
  by_cases hlt : k < L.length
  ·have hk1 : (k : Int) < (L.length : Int) := by omega
   obtain ⟨ub, uo, rfl, -, hub, huk⟩ := Hat.out (by omega)
   obtain ⟨t, ht⟩ : ∃ t, L[k]? = some t := ⟨_, List.getElem?_eq_getElem hlt⟩
   obtain ⟨hl, he⟩ := List.getElem?_eq_some_iff.1 ht
   have hmem : t ∈ L := List.mem_of_getElem? ht
   have hc1 : wr.cell? ⟨ub, uo + k, none⟩ = some (.string (mk t)) := (Hbel.out.cell (p := ⟨ub, uo + k, none⟩) hub).trans (huk k _ (texts_at ht))
   have HNt := Lib.hid (HN.out t hmem wr)
   have htk : L.take (k + 1) = L.take k ++ [t] := by rw [List.take_succ_eq_append_getElem hl, he]
   clear huk ht he hl
   by_cases hn : Pth.Name t
   ·rw [decide_eq_true hn] at HNt
    have Hnext : Hid (∀ x ∈ L.take (k + 1), Pth.Name x) := Lib.hid (fun x hx => by
     rw [htk, List.mem_append] at hx
     rcases hx with hx | hx
     ·exact Hall.out x hx
     ·rw [List.mem_singleton.1 hx]; exact hn)
    clear hn htk hmem
    generalize mk t = y at *
    go_wp2_with (go_at_call 256; refine HNt.out.mono ?_; rintro e w2 ⟨rfl, hb2⟩)
    refine ⟨⟨k + 1, by omega, rfl, Hnext.out, Hbel.out.trans (hb2.mono Hbel.out.size)⟩, ?_⟩
    show L.length - ((k : Int) + 1).toNat < L.length - (k : Int).toNat
    omega
   ·rw [decide_eq_false hn] at HNt
    have HF : Hid (R = false) := Lib.hid (by
     cases R with
     | false => rfl
     | true => exact absurd ((HR.out.1 rfl).1 t hmem) hn)
    clear hn htk hmem
    generalize mk t = y at *
    go_wp2_with (go_at_call 256; refine HNt.out.mono ?_; rintro e w2 ⟨rfl, hb2⟩)
    go_ret
    exact ⟨by rw [HF.out]; rfl, Hb.out.trans ((Hbel.out.trans (hb2.mono Hbel.out.size)).mono Hb.out.size)⟩
  ·obtain rfl : k = L.length := by omega
   have Hall2 : Hid (∀ t ∈ L, Pth.Name t) := Lib.hid (by have := Hall.out; rw [List.take_length] at this; exact this)
   have hcase : (decide ((xs.size : Int) ≤ 40) = false ∧ Hid (R = false)) ∨ (decide ((xs.size : Int) ≤ 40) = true ∧ decide ((L.length : Int) ≤ 6) = false ∧ Hid (R = false)) ∨ (decide ((xs.size : Int) ≤ 40) = true ∧ decide ((L.length : Int) ≤ 6) = true ∧ Hid (R = true)) := by
    have e := Hlen.out
    by_cases h1 : s.length ≤ 40
    ·by_cases h2 : L.length ≤ 6
     ·exact Or.inr (Or.inr ⟨decide_eq_true (by omega), decide_eq_true (by omega), Lib.hid (HR.out.2 ⟨Hall2.out, h1, h2⟩)⟩)
     ·refine Or.inr (Or.inl ⟨decide_eq_true (by omega), decide_eq_false (by omega), Lib.hid ?_⟩)
      cases R with
      | false => rfl
      | true => exact absurd (HR.out.1 rfl).2.2 h2
    ·refine Or.inl ⟨decide_eq_false (by omega), Lib.hid ?_⟩
     cases R with
     | false => rfl
     | true => exact absurd (HR.out.1 rfl).2.1 h1
   rcases hcase with ⟨g1, hf⟩ | ⟨g1, g2, hf⟩ | ⟨g1, g2, hf⟩
   all_goals
    go_wp2_with fail
    go_ret
    exact ⟨by rw [hf.out]; rfl, Hb.out.trans (Hbel.out.mono Hb.out.size)⟩
end Go.Proofs.YtpafpegcodempaaGreat
namespace Go.Proofs.YtpafpegcodempaaGreat.Sz
def Nm : Int → List Rg → Prop
 | _, [] => True
 | k, r :: l => k ≤ r.1 ∧ r.1 ≤ r.2 ∧ r.2 ≤ 200 ∧ Nm (r.2 + 2) l
def Nmt : Int → List Rg → Int → Prop
 | k, [], m => k ≤ m
 | k, r :: l, m => k ≤ r.1 ∧ r.1 ≤ r.2 ∧ r.2 ≤ 200 ∧ Nmt (r.2 + 2) l m
theorem Nm.mono : ∀ {l : List Rg} {j k : Int}, Nm k l → j ≤ k → Nm j l
 | [], _, _, _, _ => trivial
 | _ :: _, _, _, h, hj => ⟨by have := h.1; omega, h.2⟩
theorem Nmt.append : ∀ {l m : List Rg} {k j : Int}, Nmt k l j → Nm j m → Nm k (l ++ m)
 | [], _, _, _, h, hm => hm.mono h
 | _ :: _, _, _, _, h, hm => ⟨h.1, h.2.1, h.2.2.1, Nmt.append h.2.2.2 hm⟩
theorem Nm.snoc : ∀ {l : List Rg} {q : Rg} {k : Int}, Nm k (l ++ [q]) → Nmt k l q.1 ∧ q.1 ≤ q.2 ∧ q.2 ≤ 200
 | [], q, k, h => ⟨h.1, h.2.1, h.2.2.1⟩
 | r :: l, q, k, h => by
  obtain ⟨h1, h2, h3, h4⟩ := h
  have := Nm.snoc h4
  exact ⟨⟨h1, h2, h3, this.1⟩, this.2⟩
theorem Nm.bd : ∀ {l : List Rg} {k : Int}, Nm k l → ∀ r ∈ l, k ≤ r.1 ∧ r.1 ≤ r.2 ∧ r.2 ≤ 200
 | [], _, _, r, hr => by cases hr
 | q :: l, k, h, r, hr => by
  rcases List.mem_cons.1 hr with e | e
  ·rw [e]; exact ⟨h.1, h.2.1, h.2.2.1⟩
  ·have := Nm.bd h.2.2.2 r e
   have := h.1
   have := h.2.1
   omega
theorem Nm.before {l : List Rg} {k n : Int} (h : Nm k l) (hn : n < k) : holds l n = false := by
 unfold holds
 rw [Bool.and_eq_false_iff]
 right
 rw [List.any_eq_false]
 intro r hr
 have := h.bd r hr
 simp
 omega
theorem holds_append (a b : List Rg) (n : Int) : holds (a ++ b) n = (holds a n || holds b n) := by
 unfold holds
 rw [List.any_append]
 cases decide (0 ≤ n ∧ n ≤ 200) <;> simp
def bits (k d : Nat) (l : List Rg) : List Bool := (List.range' k d).map fun (i : Nat) => holds l (i : Int)
theorem bits_cons (k d : Nat) (l : List Rg) : bits k (d + 1) l = holds l (k : Int) :: bits (k + 1) d l := by
 unfold bits; rw [List.range'_succ, List.map_cons]
theorem of_bits (l : List Rg) : of l = bits 0 201 l := by
 unfold of bits; rw [List.range_eq_range']
theorem bits_past {lo hi : Int} {l : List Rg} : ∀ (d k : Nat), hi < (k : Int) → bits k d ((lo, hi) :: l) = bits k d l := by
 intro d
 induction d with
 | zero => intro k _; rfl
 | succ d ih =>
  intro k hk
  rw [bits_cons, bits_cons, ih (k + 1) (by omega), holds_cons]
  have : decide (((lo, hi) : Rg).1 ≤ (k : Int) ∧ (k : Int) ≤ ((lo, hi) : Rg).2) = false := decide_eq_false (by show ¬ (lo ≤ (k : Int) ∧ (k : Int) ≤ hi); omega)
  rw [this, Bool.and_false, Bool.false_or]
theorem nm_formR : ∀ (d k : Nat), k + d = 201 →
  (∀ l, Nm (k : Int) l → formR k none (bits k d l) = l) ∧
  (∀ (lo : Nat) (hi : Int) (l : List Rg), lo < k → (k : Int) ≤ hi + 1 → hi ≤ 200 → Nm (hi + 2) l → formR k (some lo) (bits k d (((lo : Int), hi) :: l)) = ((lo : Int), hi) :: l) := by
 intro d
 induction d with
 | zero =>
  intro k hk
  refine ⟨fun l h => ?_, fun lo hi l h1 h2 h3 h4 => ?_⟩
  ·cases l with
   | nil => rfl
   | cons r l => exact absurd h.1 (by have := h.2.1; have := h.2.2.1; omega)
  ·have : l = [] := by
    cases l with
    | nil => rfl
    | cons r l => exact absurd h4.1 (by have := h4.2.1; have := h4.2.2.1; omega)
   subst this
   show [((lo : Int), (k : Int) - 1)] = _
   rw [show (k : Int) - 1 = hi by omega]
 | succ d ih =>
  intro k hk
  obtain ⟨ih1, ih2⟩ := ih (k + 1) (by omega)
  refine ⟨fun l h => ?_, fun lo hi l h1 h2 h3 h4 => ?_⟩
  ·rw [bits_cons]
   cases l with
   | nil =>
    rw [holds_nil]
    exact ih1 [] trivial
   | cons r l =>
    obtain ⟨g1, g2, g3, g4⟩ := h
    obtain ⟨r1, r2⟩ := r
    simp only at g1 g2 g3 g4
    by_cases e : (k : Int) = r1
    ·subst e
     have hb : holds (((k : Int), r2) :: l) (k : Int) = true := by
      rw [holds_cons, decide_eq_true (p := 0 ≤ (k : Int) ∧ (k : Int) ≤ 200) (by omega)]
      simp [g2]
     rw [hb]
     exact ih2 k r2 l (by omega) (by omega) g3 g4
    ·have hn : Nm ((k + 1 : Nat) : Int) ((r1, r2) :: l) := ⟨by show ((k + 1 : Nat) : Int) ≤ r1; omega, g2, g3, g4⟩
     rw [hn.before (by omega)]
     exact ih1 _ hn
  ·rw [bits_cons]
   by_cases e : (k : Int) ≤ hi
   ·have hb : holds (((lo : Int), hi) :: l) (k : Int) = true := by
     rw [holds_cons, decide_eq_true (p := 0 ≤ (k : Int) ∧ (k : Int) ≤ 200) (by omega), decide_eq_true (p := (((lo : Int), hi) : Rg).1 ≤ (k : Int) ∧ (k : Int) ≤ (((lo : Int), hi) : Rg).2) (by show (lo : Int) ≤ (k : Int) ∧ (k : Int) ≤ hi; omega)]
     rfl
    rw [hb]
    exact ih2 lo hi l (by omega) (by omega) h3 h4
   ·have e2 : hi = (k : Int) - 1 := by omega
    have hb : holds (((lo : Int), hi) :: l) (k : Int) = false := by
     rw [holds_cons, h4.before (by omega), decide_eq_false (p := (((lo : Int), hi) : Rg).1 ≤ (k : Int) ∧ (k : Int) ≤ (((lo : Int), hi) : Rg).2) (by show ¬ ((lo : Int) ≤ (k : Int) ∧ (k : Int) ≤ hi); omega)]
     simp
    rw [hb, bits_past d (k + 1) (by omega)]
    show ((lo : Int), (k : Int) - 1) :: formR (k + 1) none (bits (k + 1) d l) = _
    rw [ih1 l (h4.mono (by omega)), e2]
theorem nm_form {l : List Rg} (h : Nm 0 l) : form (of l) = l := by
 rw [of_bits]
 exact (nm_formR 201 0 rfl).1 l h
theorem norm_is {l m : List Rg} (h : Nm 0 m) (hs : ∀ n, holds m n = holds l n) : m = norm l := by
 rw [← nm_form h, of_same hs]; rfl
theorem two_is {k : Nat} {a b m : List Rg} (h : Nm 0 m) (hs : ∀ n, 0 ≤ n → n ≤ 200 → holds m n = pick k (holds a n) (holds b n)) : m = two k a b := by
 rw [← nm_form h]
 unfold two of
 congr 1
 refine List.map_congr_left fun i hi => ?_
 have := List.mem_range.1 hi
 exact hs _ (by omega) (by omega)
theorem formR_nm : ∀ (b : List Bool) (k : Nat) (st : Option Nat), k + b.length ≤ 201 → Opens k st → Nm (match st with | some lo => (lo : Int) | none => (k : Int)) (formR k st b)
 | [], k, none, _, _ => trivial
 | [], k, some lo, hk, ho => by
  have := ho lo rfl
  simp only [List.length_nil] at hk
  exact ⟨Int.le_refl _, by show (lo : Int) ≤ (k : Int) - 1; omega, by show (k : Int) - 1 ≤ 200; omega, trivial⟩
 | false :: b, k, none, hk, ho => by
  have := formR_nm b (k + 1) none (by simp at hk; omega) (fun lo h => by cases h)
  exact this.mono (by show (k : Int) ≤ ((k + 1 : Nat) : Int); omega)
 | true :: b, k, none, hk, ho => formR_nm b (k + 1) (some k) (by simp at hk; omega) (fun lo h => by injection h with h; omega)
 | true :: b, k, some lo, hk, ho => by
  have := ho lo rfl
  exact formR_nm b (k + 1) (some lo) (by simp at hk; omega) (fun x h => by injection h with h; omega)
 | false :: b, k, some lo, hk, ho => by
  have := ho lo rfl
  have h2 := formR_nm b (k + 1) none (by simp at hk; omega) (fun x h => by cases h)
  simp only [List.length_cons] at hk
  exact ⟨Int.le_refl _, by show (lo : Int) ≤ (k : Int) - 1; omega, by show (k : Int) - 1 ≤ 200; omega, h2.mono (by show (k : Int) - 1 + 2 ≤ ((k + 1 : Nat) : Int); omega)⟩
theorem norm_nm (l : List Rg) : Nm 0 (norm l) := formR_nm (of l) 0 none (by rw [of_len]; omega) (fun lo h => by cases h)
theorem norm_len (l : List Rg) : (norm l).length ≤ 202 := by
 have := formR_len (of l) 0 none
 rw [of_len] at this
 exact this
def clip1 (r : Rg) : List Rg := if max r.1 0 ≤ min r.2 200 then [(max r.1 0, min r.2 200)] else []
def clip (l : List Rg) : List Rg := l.flatMap clip1
theorem clip1_holds (r : Rg) (n : Int) : holds (clip1 r) n = (decide (0 ≤ n ∧ n ≤ 200) && decide (r.1 ≤ n ∧ n ≤ r.2)) := by
 unfold clip1
 split
 ·rw [holds_cons, holds_nil, Bool.or_false]
  by_cases h : 0 ≤ n ∧ n ≤ 200
  ·rw [decide_eq_true h]
   congr 1
   rw [decide_eq_decide]
   simp only
   omega
  ·rw [decide_eq_false h]; rfl
 ·rw [holds_nil]
  by_cases h : 0 ≤ n ∧ n ≤ 200
  ·rw [decide_eq_false (p := r.1 ≤ n ∧ n ≤ r.2) (by omega), Bool.and_false]
  ·rw [decide_eq_false h]; rfl
theorem clip_holds : ∀ (l : List Rg) (n : Int), holds (clip l) n = holds l n
 | [], n => rfl
 | r :: l, n => by
  have := clip_holds l n
  unfold clip at this ⊢
  rw [List.flatMap_cons, holds_append, holds_cons, clip1_holds, this]
theorem clip1_bd (r : Rg) : ∀ x ∈ clip1 r, 0 ≤ x.1 ∧ x.1 ≤ x.2 ∧ x.2 ≤ 200 := by
 intro x hx
 unfold clip1 at hx
 split at hx
 ·rw [List.mem_singleton.1 hx]; simp only; omega
 ·cases hx
theorem clip_bd (l : List Rg) : ∀ x ∈ clip l, 0 ≤ x.1 ∧ x.1 ≤ x.2 ∧ x.2 ≤ 200 := by
 intro x hx
 obtain ⟨r, _, hr⟩ := List.mem_flatMap.1 hx
 exact clip1_bd r x hr
theorem clip1_len (r : Rg) : (clip1 r).length ≤ 1 := by unfold clip1; split <;> simp
theorem clip_len : ∀ (l : List Rg), (clip l).length ≤ l.length
 | [] => Nat.le_refl _
 | r :: l => by
  have h1 := clip_len l
  have h2 := clip1_len r
  unfold clip at h1 ⊢
  rw [List.flatMap_cons, List.length_append, List.length_cons]
  omega
theorem clip_take {l : List Rg} {n : Nat} {r : Rg} (h : l[n]? = some r) : clip (l.take (n + 1)) = clip (l.take n) ++ clip1 r := by
 obtain ⟨hl, he⟩ := List.getElem?_eq_some_iff.1 h
 unfold clip
 rw [List.take_succ_eq_append_getElem hl, he, List.flatMap_append]
 simp
theorem holds_perm {a b : List Rg} (h : a.Perm b) (n : Int) : holds a n = holds b n := by
 unfold holds
 congr 1
 rw [Bool.eq_iff_iff, List.any_eq_true, List.any_eq_true]
 exact ⟨fun ⟨x, hx, e⟩ => ⟨x, h.mem_iff.1 hx, e⟩, fun ⟨x, hx, e⟩ => ⟨x, h.mem_iff.2 hx, e⟩⟩
structure Put (S : List Rg) (n : Nat) (out : List Rg) : Prop where
 nm : Nm 0 out
 has : ∀ N, holds out N = holds (S.take n) N
 low : ∀ q, out.getLast? = some q → ∀ m x, n ≤ m → S[m]? = some x → q.1 ≤ x.1
 len : out.length ≤ n
structure Rising (S : List Rg) : Prop where
 bd : ∀ x ∈ S, 0 ≤ x.1 ∧ x.1 ≤ x.2 ∧ x.2 ≤ 200
 up : ∀ (i j : Nat) (x y : Rg), i < j → S[i]? = some x → S[j]? = some y → x.1 ≤ y.1
theorem Put.start (S : List Rg) : Put S 0 [] := ⟨trivial, fun N => rfl, fun q h => (by cases h), Nat.le_refl _⟩
theorem take_holds {S : List Rg} {n : Nat} {r : Rg} (h : S[n]? = some r) (N : Int) : holds (S.take (n + 1)) N = (holds (S.take n) N || (decide (0 ≤ N ∧ N ≤ 200) && decide (r.1 ≤ N ∧ N ≤ r.2))) := by
 obtain ⟨hl, he⟩ := List.getElem?_eq_some_iff.1 h
 rw [List.take_succ_eq_append_getElem hl, he, holds_append, holds_cons, holds_nil, Bool.or_false]
theorem Put.first {S : List Rg} {n : Nat} {r : Rg} (h : Put S n []) (hS : Rising S) (hr : S[n]? = some r) : Put S (n + 1) [r] := by
 have hb := hS.bd r (List.mem_of_getElem? hr)
 refine ⟨⟨hb.1, hb.2.1, hb.2.2, trivial⟩, fun N => ?_, ?_, by simp⟩
 ·rw [take_holds hr, ← h.has N, holds_cons, Bool.or_comm]
 ·rintro q hq m x hm hx
  simp at hq
  subst hq
  exact hS.up n m r x (by omega) hr hx
theorem Put.more {S : List Rg} {n : Nat} {r q : Rg} {out : List Rg} (h : Put S n (out ++ [q])) (hS : Rising S) (hr : S[n]? = some r) (hq : ¬ r.1 ≤ q.2 + 1) : Put S (n + 1) (out ++ [q] ++ [r]) := by
 have hb := hS.bd r (List.mem_of_getElem? hr)
 obtain ⟨s1, s2, s3⟩ := h.nm.snoc
 refine ⟨?_, fun N => ?_, ?_, by have := h.len; rw [List.length_append] at *; simp at *; omega⟩
 ·rw [List.append_assoc]
  exact s1.append ⟨Int.le_refl _, s2, s3, by show q.2 + 2 ≤ r.1; omega, hb.2.1, hb.2.2, trivial⟩
 ·rw [take_holds hr, ← h.has N, holds_append, holds_cons r [], holds_nil, Bool.or_false]
 ·rintro p hp m x hm hx
  simp at hp
  subst hp
  exact hS.up n m r x (by omega) hr hx
theorem Put.on {S : List Rg} {n : Nat} {r q : Rg} {out : List Rg} (h : Put S n (out ++ [q])) (hS : Rising S) (hr : S[n]? = some r) (hq : r.1 ≤ q.2 + 1) : Put S (n + 1) (out ++ [(q.1, max q.2 r.2)]) := by
 have hb := hS.bd r (List.mem_of_getElem? hr)
 obtain ⟨s1, s2, s3⟩ := h.nm.snoc
 have hlow := h.low q (by simp) n r (Nat.le_refl _) hr
 refine ⟨s1.append ⟨Int.le_refl _, by show q.1 ≤ max q.2 r.2; omega, by show max q.2 r.2 ≤ 200; omega, trivial⟩, fun N => ?_, ?_, by have := h.len; rw [List.length_append] at *; simp at *; omega⟩
 ·rw [take_holds hr, ← h.has N, holds_append, holds_append, holds_cons, holds_cons, holds_nil, Bool.or_false, Bool.or_false, Bool.or_assoc, ← Bool.and_or_distrib_left]
  congr 2
  rw [Bool.eq_iff_iff, Bool.or_eq_true, decide_eq_true_eq, decide_eq_true_eq, decide_eq_true_eq]
  simp only
  omega
 ·rintro p hp m x hm hx
  simp at hp
  subst hp
  exact h.low q (by simp) m x (by omega) hx
theorem Put.done {S l out : List Rg} (h : Put S S.length out) (hS : ∀ n, holds S n = holds l n) : out = norm l :=
 norm_is h.nm (fun n => by rw [h.has, List.take_length, hS])
def cutR : Int → Int → List Rg → List Rg × List Rg
 | c, hi, [] => ([], if c ≤ hi then [(c, hi)] else [])
 | c, hi, s :: b => ((if max c s.1 ≤ min hi s.2 then [(max c s.1, min hi s.2)] else []) ++ (cutR (max c (s.2 + 1)) hi b).1, (if c ≤ min hi (s.1 - 1) then [(c, min hi (s.1 - 1))] else []) ++ (cutR (max c (s.2 + 1)) hi b).2)
theorem cutR_past : ∀ (b : List Rg) (c hi : Int), hi < c → cutR c hi b = ([], [])
 | [], c, hi, h => by unfold cutR; rw [if_neg (by omega)]
 | s :: b, c, hi, h => by unfold cutR; rw [if_neg (by omega), if_neg (by omega), cutR_past b _ hi (by omega)]; rfl
theorem holds_if (p : Prop) [Decidable p] (r : Rg) (n : Int) : holds (if p then [r] else []) n = (decide (0 ≤ n ∧ n ≤ 200) && (decide p && decide (r.1 ≤ n ∧ n ≤ r.2))) := by
 by_cases h : p
 ·rw [if_pos h, holds_cons, holds_nil, Bool.or_false, decide_eq_true h, Bool.true_and]
 ·rw [if_neg h, holds_nil, decide_eq_false h, Bool.false_and, Bool.and_false]
theorem holds_in (b : List Rg) (n : Int) : holds b n = (decide (0 ≤ n ∧ n ≤ 200) && holds b n) := by
 by_cases h : 0 ≤ n ∧ n ≤ 200
 ·rw [decide_eq_true h, Bool.true_and]
 ·rw [holds_out h, Bool.and_false]
theorem cutR_in : ∀ (b : List Rg) (m c hi n : Int), Nm m b → holds (cutR c hi b).1 n = (decide (c ≤ n ∧ n ≤ hi) && holds b n)
 | [], m, c, hi, n, _ => by unfold cutR; rw [holds_nil, Bool.and_false]
 | s :: b, m, c, hi, n, h => by
  have ih := cutR_in b (s.2 + 2) (max c (s.2 + 1)) hi n h.2.2.2
  have hs := h.2.1
  unfold cutR
  rw [holds_append, holds_if, ih, holds_cons]
  by_cases hb : holds b n = true
  ·have hn : ¬ n < s.2 + 2 := fun hlt => by rw [h.2.2.2.before hlt] at hb; cases hb
   rw [hb, Bool.and_true, Bool.or_true, Bool.and_true]
   have hr : decide (0 ≤ n ∧ n ≤ 200) = true := by
    cases hd : decide (0 ≤ n ∧ n ≤ 200)
    ·rw [holds_in, hd] at hb; cases hb
    ·rfl
   rw [hr, Bool.true_and, Bool.eq_iff_iff]
   simp only [Bool.or_eq_true, Bool.and_eq_true, decide_eq_true_eq]
   omega
  ·rw [Bool.not_eq_true] at hb
   rw [hb, Bool.and_false, Bool.or_false, Bool.or_false, Bool.eq_iff_iff]
   simp only [Bool.and_eq_true, decide_eq_true_eq]
   omega
theorem cutR_out : ∀ (b : List Rg) (m c hi n : Int), Nm m b → holds (cutR c hi b).2 n = (decide (0 ≤ n ∧ n ≤ 200) && (decide (c ≤ n ∧ n ≤ hi) && !holds b n))
 | [], m, c, hi, n, _ => by
  unfold cutR
  rw [holds_if, holds_nil, Bool.not_false, Bool.and_true]
  congr 1
  rw [Bool.eq_iff_iff]
  simp only [Bool.and_eq_true, decide_eq_true_eq]
  omega
 | s :: b, m, c, hi, n, h => by
  have ih := cutR_out b (s.2 + 2) (max c (s.2 + 1)) hi n h.2.2.2
  have hs := h.2.1
  unfold cutR
  rw [holds_append, holds_if, ih, holds_cons, ← Bool.and_or_distrib_left]
  cases hr : decide (0 ≤ n ∧ n ≤ 200)
  ·rfl
  ·rw [Bool.true_and, Bool.true_and, Bool.true_and]
   by_cases hb : holds b n = true
   ·have hn : ¬ n < s.2 + 2 := fun hlt => by rw [h.2.2.2.before hlt] at hb; cases hb
    rw [hb, Bool.or_true, Bool.not_true, Bool.and_false, Bool.and_false, Bool.or_false, Bool.eq_false_iff]
    simp only [ne_eq, Bool.and_eq_true, decide_eq_true_eq]
    omega
   ·rw [Bool.not_eq_true] at hb
    rw [hb, Bool.or_false, Bool.not_false, Bool.and_true, Bool.eq_iff_iff]
    simp only [Bool.or_eq_true, Bool.and_eq_true, decide_eq_true_eq, Bool.not_eq_true', decide_eq_false_iff_not]
    omega
theorem cutR_nm1 : ∀ (b : List Rg) (m c hi k : Int), Nm m b → k ≤ m ∨ k ≤ c → k ≤ hi + 2 → hi ≤ 200 → Nmt k (cutR c hi b).1 (hi + 2)
 | [], m, c, hi, k, _, _, hk, _ => hk
 | s :: b, m, c, hi, k, h, h1, h2, h3 => by
  have hs := h.2.1
  have hm := h.1
  show Nmt k ((if max c s.1 ≤ min hi s.2 then [(max c s.1, min hi s.2)] else []) ++ (cutR (max c (s.2 + 1)) hi b).1) (hi + 2)
  split
  ·refine ⟨by show k ≤ max c s.1; omega, by assumption, by show min hi s.2 ≤ 200; omega, ?_⟩
   show Nmt (min hi s.2 + 2) (cutR (max c (s.2 + 1)) hi b).1 (hi + 2)
   by_cases hh : hi < s.2
   ·rw [cutR_past b _ hi (by omega)]
    show min hi s.2 + 2 ≤ hi + 2; omega
   ·exact cutR_nm1 b (s.2 + 2) _ hi _ h.2.2.2 (Or.inl (by omega)) (by omega) h3
  ·exact cutR_nm1 b (s.2 + 2) _ hi k h.2.2.2 (by omega) h2 h3
theorem cutR_nm2 : ∀ (b : List Rg) (m c hi k : Int), Nm m b → k ≤ c → k ≤ hi + 2 → hi ≤ 200 → Nmt k (cutR c hi b).2 (hi + 2)
 | [], m, c, hi, k, _, h1, h2, h3 => by
  unfold cutR
  split
  ·exact ⟨h1, by assumption, h3, Int.le_refl _⟩
  ·exact h2
 | s :: b, m, c, hi, k, h, h1, h2, h3 => by
  have hs := h.2.1
  show Nmt k ((if c ≤ min hi (s.1 - 1) then [(c, min hi (s.1 - 1))] else []) ++ (cutR (max c (s.2 + 1)) hi b).2) (hi + 2)
  split
  ·refine ⟨h1, by assumption, by show min hi (s.1 - 1) ≤ 200; omega, ?_⟩
   show Nmt (min hi (s.1 - 1) + 2) (cutR (max c (s.2 + 1)) hi b).2 (hi + 2)
   by_cases hh : hi < s.1 - 1
   ·rw [cutR_past b _ hi (by omega)]
    show min hi (s.1 - 1) + 2 ≤ hi + 2; omega
   ·exact cutR_nm2 b (s.2 + 2) _ hi _ h.2.2.2 (by omega) (by omega) h3
  ·exact cutR_nm2 b (s.2 + 2) _ hi k h.2.2.2 (by omega) h2 h3
theorem cutR_len : ∀ (b : List Rg) (c hi : Int), (cutR c hi b).1.length ≤ b.length ∧ (cutR c hi b).2.length ≤ b.length + 1
 | [], c, hi => by
  unfold cutR
  refine ⟨Nat.le_refl _, ?_⟩
  simp only
  split <;> simp
 | s :: b, c, hi => by
  have ih := cutR_len b (max c (s.2 + 1)) hi
  unfold cutR
  simp only [List.length_append, List.length_cons]
  constructor <;> split <;> simp <;> omega
def partIn (b a : List Rg) : List Rg := a.flatMap fun r => (cutR r.1 r.2 b).1
def partOut (b a : List Rg) : List Rg := a.flatMap fun r => (cutR r.1 r.2 b).2
theorem part_nm : ∀ (a b : List Rg) (k : Int), Nm 0 b → Nm k a → Nm k (partIn b a) ∧ Nm k (partOut b a)
 | [], b, k, _, _ => ⟨trivial, trivial⟩
 | r :: a, b, k, hb, ha => by
  have ih := part_nm a b (r.2 + 2) hb ha.2.2.2
  have h0 := ha.1
  have h1 := ha.2.1
  unfold partIn partOut at ih ⊢
  rw [List.flatMap_cons, List.flatMap_cons]
  exact ⟨(cutR_nm1 b 0 r.1 r.2 k hb (Or.inr h0) (by omega) ha.2.2.1).append ih.1, (cutR_nm2 b 0 r.1 r.2 k hb h0 (by omega) ha.2.2.1).append ih.2⟩
theorem part_holds (n : Int) (hn : 0 ≤ n ∧ n ≤ 200) : ∀ (a b : List Rg), Nm 0 b → holds (partIn b a) n = (holds a n && holds b n) ∧ holds (partOut b a) n = (holds a n && !holds b n)
 | [], b, _ => by
  unfold partIn partOut
  rw [List.flatMap_nil, List.flatMap_nil, holds_nil]
  exact ⟨rfl, rfl⟩
 | r :: a, b, hb => by
  have ih := part_holds n hn a b hb
  unfold partIn partOut at ih ⊢
  rw [List.flatMap_cons, List.flatMap_cons, holds_append, holds_append, ih.1, ih.2, cutR_in b 0 _ _ n hb, cutR_out b 0 _ _ n hb, holds_cons, decide_eq_true hn]
  cases decide (r.1 ≤ n ∧ n ≤ r.2) <;> cases holds a n <;> cases holds b n <;> exact ⟨rfl, rfl⟩
theorem part_is (a b : List Rg) : partIn (norm b) (norm a) = two 1 a b ∧ partOut (norm b) (norm a) = two 2 a b := by
 have hn := part_nm (norm a) (norm b) 0 (norm_nm b) (norm_nm a)
 refine ⟨two_is hn.1 (fun n h0 h1 => ?_), two_is hn.2 (fun n h0 h1 => ?_)⟩
 ·rw [(part_holds n ⟨h0, h1⟩ _ _ (norm_nm b)).1, norm_holds, norm_holds]; rfl
 ·rw [(part_holds n ⟨h0, h1⟩ _ _ (norm_nm b)).2, norm_holds, norm_holds]; rfl
theorem join_is (a b : List Rg) : norm (a ++ b) = two 0 a b := by
 refine two_is (norm_nm _) (fun n _ _ => ?_)
 rw [norm_holds, holds_append]; rfl
theorem part_len (b : List Rg) : ∀ (a : List Rg), (partIn b a).length ≤ a.length * b.length ∧ (partOut b a).length ≤ a.length * (b.length + 1)
 | [] => by simp [partIn, partOut]
 | r :: a => by
  have ih := part_len b a
  have h := cutR_len b r.1 r.2
  unfold partIn partOut at ih ⊢
  rw [List.flatMap_cons, List.flatMap_cons, List.length_append, List.length_append, List.length_cons, Nat.add_one_mul, Nat.add_one_mul]
  omega
theorem part_take {a b : List Rg} {n : Nat} {r : Rg} (h : a[n]? = some r) : partIn b (a.take (n + 1)) = partIn b (a.take n) ++ (cutR r.1 r.2 b).1 ∧ partOut b (a.take (n + 1)) = partOut b (a.take n) ++ (cutR r.1 r.2 b).2 := by
 obtain ⟨hl, he⟩ := List.getElem?_eq_some_iff.1 h
 unfold partIn partOut
 rw [List.take_succ_eq_append_getElem hl, he, List.flatMap_append, List.flatMap_append]
 simp
end Go.Proofs.YtpafpegcodempaaGreat.Sz
namespace Go.Proofs.YtpafpegcodempaaGreat
open Go.RowKit
def ext (lo hi : Int) : List Sz.Rg := if lo ≤ hi then [(lo, hi)] else []
theorem ext_len (lo hi : Int) : (ext lo hi).length ≤ 1 := by unfold ext; split <;> simp
theorem rg_made (w : World) (t : TypeId) (lo hi : Int) : Rgs (w.alloc (.cells #[.int .i64 lo, .int .i64 hi] t)) (fun i => i = w.heap.size) (.slice (some ⟨w.heap.size, 0, none⟩) 1 1) [(lo, hi)] := by
 refine ⟨_, 1, rfl, Nat.le_refl _, fun _ => ⟨w.heap.size, 0, rfl, rfl, by simp, fun i x hx j u hu => ?_⟩⟩
 rw [(Row.made w _ _).at, Nat.zero_add]
 match i, hx with
 | 0, hx =>
  injection hx with hx
  subst hx
  match j, hu with
  | 0, hu => simpa [rgV] using hu
  | 1, hu => simpa [rgV] using hu
theorem sz_add {base : Nat} {v : Value} {l : List Sz.Rg} {w : World} (h : w.ownsRow base 114 2 v l.length (l.flatMap rgV)) (hb : base ≤ w.heap.size) (hl : l.length ≤ 1000000) (lo hi : Int) :
  Calls Tryz.prog 393 #[v, .int .i64 lo, .int .i64 hi] w fun e w' => ∃ v', e = .returned v' ∧ w'.ownsRow base 114 2 v' (l ++ ext lo hi).length ((l ++ ext lo hi).flatMap rgV) ∧ w.grownBy w' v.ownBlock ∧ Near w v v' := by
 obtain ⟨i0, hi0, hz0, hz1, hz2⟩ := info_parts rangeInfo
 by_cases hlt : hi < lo
 ·have hx : Hid (ext lo hi = []) := Lib.hid (by unfold ext; rw [if_neg (by omega)])
  have H := Lib.hid h
  clear h
  go_enter Tryz.func393, Tryz.ntmps393
  go_wp2_with fail
  go_ret
  exact ⟨v, rfl, by rw [hx.out, List.append_nil]; exact H.out, ⟨rfl, rfl, rfl, Nat.le_refl _, fun _ _ _ => rfl⟩, Near.refl _ _⟩
 ·have hx : Hid (ext lo hi = [(lo, hi)]) := Lib.hid (by unfold ext; rw [if_pos (by omega)])
  have hown := h.alloc (.cells #[.int .i64 lo, .int .i64 hi] 114)
  have hmade := rg_made w 114 lo hi
  have hsz : base ≤ (w.alloc (.cells #[.int .i64 lo, .int .i64 hi] 114)).heap.size := by simp; omega
  have hfin : Hid (∀ v' w', w'.ownsRow base 114 2 v' (l.length + 1) (l.flatMap rgV ++ [(lo, hi)].flatMap rgV) → (w.alloc (.cells #[.int .i64 lo, .int .i64 hi] 114)).grownBy w' v.ownBlock → Near (w.alloc (.cells #[.int .i64 lo, .int .i64 hi] 114)) v v' →
    w'.ownsRow base 114 2 v' (l ++ ext lo hi).length ((l ++ ext lo hi).flatMap rgV) ∧ w.grownBy w' v.ownBlock ∧ Near w v v') := Lib.hid (by
   intro v' w' h1 h2 h3
   rw [hx.out, List.length_append, List.flatMap_append]
   refine ⟨h1, ⟨h2.os, h2.tape, h2.output, by have := h2.size; simp at this; omega, fun k hk hn => (h2.block k (by simp; omega) hn).trans (Below.heap_alloc w _ k hk)⟩, ?_⟩
   rcases h3 with h3 | h3
   ·exact Or.inl h3
   ·exact Or.inr (fun g hg => by have := h3 g hg; simp at this; omega))
  clear h hx
  go_enter Tryz.func393, Tryz.ntmps393
  go_wp2_with (at_builtin; refine wp_joins (f := rgV) (k := 2) rfl _ _ 154 rfl base 114 i0 (.agg #[.int .i64 0, .int .i64 0]) 16 Tryz.underlying154 hi0 hz0 hz1 hz2 rfl (by decide) rfl rfl hown hmade (fun _ _ => rfl) (fun x _ => rg_one x) ?c3 ?c4 hsz ?_)
  case c3 => unfold maxLen; first | omega | (simp; omega)
  case c4 => first | omega | (simp; omega)
  intro v' w' h1 h2 h3
  have Hend := Lib.hid (hfin.out v' w' h1 h2 h3)
  clear h1 h2 h3 hown hmade hfin
  go_wp2
  go_ret
  exact ⟨v', rfl, Hend.out⟩
open Go.RowKit
theorem str_empty (p : List UInt8) : (mk p).toList.isEmpty = decide (p = []) := by rw [Lib.toList_data, mk_data]; cases p <;> rfl
theorem str_nil (p : List UInt8) : ((mk p).toList == []) = decide (p = []) := by rw [Lib.toList_data, mk_data]; cases p <;> rfl
theorem str_same (p q : List UInt8) : ((mk p).toList == (mk q).toList) = decide (p = q) := by
 rw [Lib.toList_data, Lib.toList_data, mk_data, mk_data]
 by_cases h : p = q
 ·rw [h, decide_eq_true rfl]; exact beq_self_eq_true _
 ·rw [decide_eq_false h, beq_eq_false_iff_ne]; exact h
theorem ref_fright (c : Flt.Cl) (w : World) (hp : c.pre.length ≤ 100000) :
  Calls Tryz.prog 118 #[.agg #[.string (mk c.pre), .int .i64 c.lo, .int .i64 c.hi]] w fun e w' => e = .returned (.bool (decide (Flt.Right c))) ∧ Below w.heap.size w w' := by
 obtain ⟨p, lo, hi⟩ := c
 simp only at hp ⊢
 have ia := str_empty p
 have ea := str_nil p
 have R := Lib.hid (fun W => ref_right p W hp)
 have hD : Hid (decide (Flt.Right ⟨p, lo, hi⟩) = ((decide (p = []) || decide (Pth.Right p)) && (decide (0 ≤ lo) && (decide (lo ≤ hi) && decide (hi ≤ 200))))) := Lib.hid (by rw [Bool.eq_iff_iff]; refine decide_eq_true_iff.trans ?_; simp only [Flt.Right, decide_eq_true_iff, Bool.and_eq_true, Bool.or_eq_true])
 generalize hE : decide (p = []) = d0 at ia ea hD
 generalize decide (Pth.Right p) = d1 at *
 generalize e1 : decide ((0 : Int) ≤ lo) = d2 at hD
 generalize e2 : decide (lo ≤ hi) = d3 at hD
 generalize e3 : decide (hi ≤ (200 : Int)) = d4 at hD
 generalize decide (Flt.Right ⟨p, lo, hi⟩) = D at *
 clear hE
 generalize mk p = x at *
 cases d0
 ·cases d1
  ·go_enter Tryz.func118, Tryz.ntmps118
   go_wp2_with fail
   refine (R.out _).mono ?_
   rintro e w1 ⟨rfl, hb1⟩
   go_wp2_with fail
   go_ret
   exact ⟨by rw [hD.out]; rfl, ((Below.refl _ _).alloc (Nat.le_refl _) _).trans (hb1.mono (by simp))⟩
  ·cases d2
   ·go_enter Tryz.func118, Tryz.ntmps118
    go_wp2_with fail
    refine (R.out _).mono ?_
    rintro e w1 ⟨rfl, hb1⟩
    have q1 : w1.cell? ⟨w.heap.size, 1, none⟩ = some (.int .i64 lo) := (hb1.cell (p := ⟨w.heap.size, 1, none⟩) (by simp)).trans ((Row.made w 116 #[.string x, .int .i64 lo, .int .i64 hi]).at 1)
    have q2 : w1.cell? ⟨w.heap.size, 2, none⟩ = some (.int .i64 hi) := (hb1.cell (p := ⟨w.heap.size, 2, none⟩) (by simp)).trans ((Row.made w 116 #[.string x, .int .i64 lo, .int .i64 hi]).at 2)
    go_wp2_with fail
    go_ret
    exact ⟨by rw [hD.out]; rfl, ((Below.refl _ _).alloc (Nat.le_refl _) _).trans (hb1.mono (by simp))⟩
   ·cases d3
    ·go_enter Tryz.func118, Tryz.ntmps118
     go_wp2_with fail
     refine (R.out _).mono ?_
     rintro e w1 ⟨rfl, hb1⟩
     have q1 : w1.cell? ⟨w.heap.size, 1, none⟩ = some (.int .i64 lo) := (hb1.cell (p := ⟨w.heap.size, 1, none⟩) (by simp)).trans ((Row.made w 116 #[.string x, .int .i64 lo, .int .i64 hi]).at 1)
     have q2 : w1.cell? ⟨w.heap.size, 2, none⟩ = some (.int .i64 hi) := (hb1.cell (p := ⟨w.heap.size, 2, none⟩) (by simp)).trans ((Row.made w 116 #[.string x, .int .i64 lo, .int .i64 hi]).at 2)
     go_wp2_with fail
     go_ret
     exact ⟨by rw [hD.out]; rfl, ((Below.refl _ _).alloc (Nat.le_refl _) _).trans (hb1.mono (by simp))⟩
    ·cases d4
     ·go_enter Tryz.func118, Tryz.ntmps118
      go_wp2_with fail
      refine (R.out _).mono ?_
      rintro e w1 ⟨rfl, hb1⟩
      have q1 : w1.cell? ⟨w.heap.size, 1, none⟩ = some (.int .i64 lo) := (hb1.cell (p := ⟨w.heap.size, 1, none⟩) (by simp)).trans ((Row.made w 116 #[.string x, .int .i64 lo, .int .i64 hi]).at 1)
      have q2 : w1.cell? ⟨w.heap.size, 2, none⟩ = some (.int .i64 hi) := (hb1.cell (p := ⟨w.heap.size, 2, none⟩) (by simp)).trans ((Row.made w 116 #[.string x, .int .i64 lo, .int .i64 hi]).at 2)
      go_wp2_with fail
      go_ret
      exact ⟨by rw [hD.out]; rfl, ((Below.refl _ _).alloc (Nat.le_refl _) _).trans (hb1.mono (by simp))⟩
     ·go_enter Tryz.func118, Tryz.ntmps118
      go_wp2_with fail
      refine (R.out _).mono ?_
      rintro e w1 ⟨rfl, hb1⟩
      have q1 : w1.cell? ⟨w.heap.size, 1, none⟩ = some (.int .i64 lo) := (hb1.cell (p := ⟨w.heap.size, 1, none⟩) (by simp)).trans ((Row.made w 116 #[.string x, .int .i64 lo, .int .i64 hi]).at 1)
      have q2 : w1.cell? ⟨w.heap.size, 2, none⟩ = some (.int .i64 hi) := (hb1.cell (p := ⟨w.heap.size, 2, none⟩) (by simp)).trans ((Row.made w 116 #[.string x, .int .i64 lo, .int .i64 hi]).at 2)
      go_wp2_with fail
      go_ret
      exact ⟨by rw [hD.out]; rfl, ((Below.refl _ _).alloc (Nat.le_refl _) _).trans (hb1.mono (by simp))⟩
 ·cases d2
  ·go_enter Tryz.func118, Tryz.ntmps118
   go_wp2_with fail
   go_ret
   exact ⟨by rw [hD.out]; rfl, (Below.refl _ _).alloc (Nat.le_refl _) _⟩
  ·cases d3
   ·go_enter Tryz.func118, Tryz.ntmps118
    go_wp2_with fail
    go_ret
    exact ⟨by rw [hD.out]; rfl, (Below.refl _ _).alloc (Nat.le_refl _) _⟩
   ·cases d4
    ·go_enter Tryz.func118, Tryz.ntmps118
     go_wp2_with fail
     go_ret
     exact ⟨by rw [hD.out]; rfl, (Below.refl _ _).alloc (Nat.le_refl _) _⟩
    ·go_enter Tryz.func118, Tryz.ntmps118
     go_wp2_with fail
     go_ret
     exact ⟨by rw [hD.out]; rfl, (Below.refl _ _).alloc (Nat.le_refl _) _⟩
theorem clauseInfo : (Tryz.prog.info? 116).map (fun i => (i.zero, i.size, i.bytes)) = some (some (.agg #[.string ⟨#[]⟩, .int .i64 0, .int .i64 0]), 3, 32) := by kernel_rfl
theorem cl_made (w : World) (t : TypeId) (p : List UInt8) (lo hi : Int) : Cls (w.alloc (.cells #[.string (mk p), .int .i64 lo, .int .i64 hi] t)) (fun i => i = w.heap.size) (.slice (some ⟨w.heap.size, 0, none⟩) 1 1) [⟨p, lo, hi⟩] := by
 refine ⟨_, 1, rfl, Nat.le_refl _, fun _ => ⟨w.heap.size, 0, rfl, rfl, by simp, fun i x hx j u hu => ?_⟩⟩
 rw [(Row.made w _ _).at, Nat.zero_add]
 match i, hx with
 | 0, hx =>
  injection hx with hx
  subst hx
  match j, hu with
  | 0, hu => simpa [clV] using hu
  | 1, hu => simpa [clV] using hu
  | 2, hu => simpa [clV] using hu
theorem Flt.len_take {n : Nat} (f : List Flt.Cl) : (f.take n).length ≤ n := by rw [List.length_take]; omega
end Go.Proofs.YtpafpegcodempaaGreat
