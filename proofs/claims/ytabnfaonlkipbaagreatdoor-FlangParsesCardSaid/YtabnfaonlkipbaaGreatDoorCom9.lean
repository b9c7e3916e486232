/- The document's own answers of layer 7: Name, Right. -/
import Derived.Test.YtabnfaonlkipbaaGreatDoorCom8
import Derived.Test.YtabnfaonlkipbaaGreatDoorCom5
namespace Go.Proofs.YtabnfaonlkipbaaGreatDoor
open Go.RowKit

set_option maxRecDepth 100000 in
theorem char_cases (n : Nat) (h : n < 256) : n = 46 ∨ (97 ≤ n ∧ n ≤ 122) ∨ (48 ≤ n ∧ n ≤ 57) ∨ n = 45 ∨ n = 95 ∨ n < 45 ∨ n = 47 ∨ (57 < n ∧ n < 95) ∨ n = 96 ∨ 122 < n := by omega

set_option maxRecDepth 100000 in
set_option maxHeartbeats 6400000 in
theorem ref_name (s : List UInt8) (w : World) (hs : s.length ≤ 100000) :
    Calls Tryz.prog 86 #[.string (mk s)] w fun e w' => e = .returned (.bool (decide (Pth.Name s))) ∧ Below w.heap.size w w' := by
  have ls : (mk s).size = s.length := mk_len s
  have hS : ((mk s).size : Int) ≤ 100000 := by rw [ls]; omega
  have Ls := Lib.hid ls
  clear ls
  generalize hxs : mk s = xs at *
  have Hxs := Lib.hid hxs
  go_enter Tryz.func86, Tryz.ntmps86
  go_wp2_with fail
  go_loopw [3, 4] (fun d i wr => ∃ k : Nat, k ≤ s.length ∧ i = .int .i64 (k : Int) ∧ d = .int .i64 (Pth.dots (s.take k) : Int) ∧ (∀ c ∈ s.take k, Pth.okChar c = true) ∧ Below w.heap.size w wr) (fun _ i _ => s.length - (intOf i).toNat)
  case atStart => exact ⟨0, Nat.zero_le _, rfl, rfl, by simp, Below.refl _ _⟩
  case round =>
    obtain ⟨k, hk, rfl, rfl, hall, hbel⟩ := hrel
    have hk0 : (0 : Int) ≤ (k : Int) := by omega
    have hdk : Pth.dots (s.take k) ≤ k := by
      have := List.countP_le_length (p := fun c : UInt8 => c.toNat == 46) (l := s.take k)
      rw [List.length_take] at this
      unfold Pth.dots; omega
    have Hall := Lib.hid hall
    have Hbel := Lib.hid hbel
    clear hall hbel
    by_cases hlt : k < s.length
    · have hk1 : (k : Int) < (xs.size : Int) := by have := Ls.out; omega
      obtain ⟨c, hc, ic⟩ := idx xs k (by have := Ls.out; omega)
      have hsc : s[k]? = some c := by rw [← hc, ← Hxs.out, mk_data]
      obtain ⟨hl, he⟩ := List.getElem?_eq_some_iff.1 hsc
      have htk : s.take (k + 1) = s.take k ++ [c] := by rw [List.take_succ_eq_append_getElem hl, he]
      have hdn : Hid (Pth.dots (s.take (k + 1)) = Pth.dots (s.take k) + (if c.toNat = 46 then 1 else 0)) := Lib.hid (by
        rw [htk]
        unfold Pth.dots
        rw [List.countP_append, List.countP_singleton]
        by_cases h : c.toNat = 46
        · rw [if_pos h, h]; rfl
        · rw [if_neg h, if_neg (by simpa using h)])
      have hgood : Hid (Pth.okChar c = true → ∀ x ∈ s.take (k + 1), Pth.okChar x = true) := Lib.hid (fun h x hx => by
        rw [htk, List.mem_append] at hx
        rcases hx with hx | hx
        · exact Hall.out x hx
        · rw [List.mem_singleton.1 hx]; exact h)
      have hbad : Hid (Pth.okChar c = false → decide (Pth.Name s) = false) := Lib.hid (fun h => decide_eq_false (fun m => by
        have := m.1 c (List.mem_of_getElem? hsc)
        rw [h] at this; cases this))
      have hok : Hid (Pth.okChar c = ((decide (97 ≤ c.toNat) && decide (c.toNat ≤ 122)) || (decide (48 ≤ c.toNat) && decide (c.toNat ≤ 57)) || c.toNat == 45 || c.toNat == 95 || c.toNat == 46)) := Lib.hid rfl
      have hc256 := c.toNat_lt
      have hd9 : ((Pth.dots (s.take k) : Nat) : Int) ≤ 100000 := by omega
      clear hc hsc htk he hl hdk
      generalize c.toNat = cn at *
      generalize Pth.dots (s.take k) = dk at *
      rcases char_cases cn hc256 with h | h | h | h | h | h | h | h | h | h
      all_goals
        first | (have e46 : ((cn : Int) == 46) = true := by rw [beq_iff_eq]; omega) | (have e46 : ((cn : Int) == 46) = false := by rw [beq_eq_false_iff_ne]; omega)
        first | (have d97 : decide ((97 : Int) ≤ (cn : Int)) = true := decide_eq_true (by omega)) | (have d97 : decide ((97 : Int) ≤ (cn : Int)) = false := decide_eq_false (by omega))
        first | (have d122 : decide ((cn : Int) ≤ 122) = true := decide_eq_true (by omega)) | (have d122 : decide ((cn : Int) ≤ 122) = false := decide_eq_false (by omega))
        first | (have d48 : decide ((48 : Int) ≤ (cn : Int)) = true := decide_eq_true (by omega)) | (have d48 : decide ((48 : Int) ≤ (cn : Int)) = false := decide_eq_false (by omega))
        first | (have d57 : decide ((cn : Int) ≤ 57) = true := decide_eq_true (by omega)) | (have d57 : decide ((cn : Int) ≤ 57) = false := decide_eq_false (by omega))
        first | (have e45 : ((cn : Int) == 45) = true := by rw [beq_iff_eq]; omega) | (have e45 : ((cn : Int) == 45) = false := by rw [beq_eq_false_iff_ne]; omega)
        first | (have e95 : ((cn : Int) == 95) = true := by rw [beq_iff_eq]; omega) | (have e95 : ((cn : Int) == 95) = false := by rw [beq_eq_false_iff_ne]; omega)
        first
          | (have hT : Hid (Pth.okChar c = true) := Lib.hid (by rw [hok.out]; simp; omega))
          | (have hF : Hid (Pth.okChar c = false) := Lib.hid (by rw [hok.out]; simp; omega))
        have HH := Lib.hid h
        clear h
        go_wp2_with fail
        first
          | (go_ret
             exact ⟨by rw [hbad.out hF.out]; rfl, Hbel.out⟩)
          | (refine ⟨⟨k + 1, by omega, rfl, ?_, hgood.out hT.out, Hbel.out⟩, ?_⟩
             · rw [hdn.out]
               first
                 | (rw [if_pos (by have := HH.out; omega)]; rfl)
                 | (rw [if_neg (by have := HH.out; omega)]; rfl)
             · show s.length - ((k : Int) + 1).toNat < s.length - (k : Int).toNat
               omega)
    · obtain rfl : k = s.length := by omega
      rw [List.take_length] at hdk ⊢
      have Hall2 := Lib.hid (show ∀ c ∈ s, Pth.okChar c = true from by have := Hall.out; rw [List.take_length] at this; exact this)
      have hk1 : ¬ (s.length : Int) < (xs.size : Int) := by have := Ls.out; omega
      have hcase : (decide ((1 : Int) ≤ (xs.size : Int)) = false ∧ Hid (decide (Pth.Name s) = false)) ∨ (decide ((1 : Int) ≤ (xs.size : Int)) = true ∧ decide ((xs.size : Int) ≤ 12) = false ∧ Hid (decide (Pth.Name s) = false)) ∨
          (decide ((1 : Int) ≤ (xs.size : Int)) = true ∧ decide ((xs.size : Int) ≤ 12) = true ∧ decide (Pth.dots s < xs.size) = false ∧ Hid (decide (Pth.Name s) = false)) ∨ (decide ((1 : Int) ≤ (xs.size : Int)) = true ∧ decide ((xs.size : Int) ≤ 12) = true ∧ decide (Pth.dots s < xs.size) = true ∧ Hid (decide (Pth.Name s) = true)) := by
        have e := Ls.out
        by_cases h1 : 1 ≤ s.length
        · by_cases h2 : s.length ≤ 12
          · by_cases h3 : Pth.dots s < s.length
            · exact Or.inr (Or.inr (Or.inr ⟨decide_eq_true (by omega), decide_eq_true (by omega), decide_eq_true (by omega), Lib.hid (decide_eq_true ⟨Hall2.out, h1, h2, h3⟩)⟩))
            · exact Or.inr (Or.inr (Or.inl ⟨decide_eq_true (by omega), decide_eq_true (by omega), decide_eq_false (by omega), Lib.hid (decide_eq_false (fun m => h3 m.2.2.2))⟩))
          · exact Or.inr (Or.inl ⟨decide_eq_true (by omega), decide_eq_false (by omega), Lib.hid (decide_eq_false (fun m => h2 m.2.2.1))⟩)
        · exact Or.inl ⟨decide_eq_false (by omega), Lib.hid (decide_eq_false (fun m => h1 m.2.1))⟩
      have hdl : ((Pth.dots s : Nat) : Int) ≤ 100000 := by omega
      clear hdk
      generalize Pth.dots s = dk at *
      rcases hcase with ⟨g1, hf⟩ | ⟨g1, g2, hf⟩ | ⟨g1, g2, g3, hf⟩ | ⟨g1, g2, g3, hf⟩
      all_goals
        go_wp2_with fail
        go_ret
        exact ⟨by rw [hf.out]; rfl, Hbel.out⟩
end Go.Proofs.YtabnfaonlkipbaaGreatDoor
/- The document's own answers of layer 7: Right. -/
namespace Go.Proofs.YtabnfaonlkipbaaGreatDoor
open Go.RowKit

set_option maxRecDepth 100000 in
theorem Pth.splitA_len (s : Tx) : ∀ cur, (splitA cur s).length ≤ s.length + 1 := by
  induction s with
  | nil => intro cur; simp [splitA]
  | cons c s ih =>
    intro cur
    unfold splitA
    split
    · simp only [List.length_cons]; have := ih []; omega
    · have := ih (cur ++ [c]); simp only [List.length_cons]; omega

set_option maxRecDepth 100000 in
theorem Pth.splitA_small (s : Tx) : ∀ cur, ∀ t ∈ splitA cur s, t.length ≤ cur.length + s.length := by
  induction s with
  | nil => intro cur t ht; simp [splitA] at ht; rw [ht]; simp
  | cons c s ih =>
    intro cur t ht
    unfold splitA at ht
    split at ht
    · rcases List.mem_cons.1 ht with rfl | ht
      · omega
      · have := ih [] t ht; simp only [List.length_cons, List.length_nil] at *; omega
    · have := ih (cur ++ [c]) t ht
      simp only [List.length_cons, List.length_append, List.length_nil] at *; omega

set_option maxRecDepth 100000 in
theorem Pth.split_len (s : Tx) : (split s).length ≤ s.length + 1 := splitA_len s []
set_option maxRecDepth 100000 in
theorem Pth.split_small {s t : Tx} (h : t ∈ split s) : t.length ≤ s.length := by have := splitA_small s [] t h; simpa using this

set_option maxRecDepth 100000 in
set_option maxHeartbeats 1600000 in
theorem ref_right (s : List UInt8) (w : World) (hs : s.length ≤ 100000) :
    Calls Tryz.prog 63 #[.string (mk s)] w fun e w' => e = .returned (.bool (decide (Pth.Right s))) ∧ Below w.heap.size w w' := by
  have HS := Lib.hid (ref_split s w hs)
  have HN : Hid (∀ t ∈ Pth.split s, ∀ W, Calls Tryz.prog 86 #[.string (mk t)] W fun e w' => e = .returned (.bool (decide (Pth.Name t))) ∧ Below W.heap.size W w') :=
    Lib.hid (fun t ht W => ref_name t W (by have := Pth.split_small ht; omega))
  have ls : (mk s).size = s.length := mk_len s
  have hll := Pth.split_len s
  have hR : decide (Pth.Right s) = true ↔ ((∀ t ∈ Pth.split s, Pth.Name t) ∧ s.length ≤ 40 ∧ (Pth.split s).length ≤ 6) := decide_eq_true_iff
  have HR := Lib.hid hR
  clear hR
  have Hlen := Lib.hid ls
  have hS : ((mk s).size : Int) ≤ 100000 := by rw [ls]; omega
  clear ls
  generalize decide (Pth.Right s) = R at *
  generalize Pth.split s = L at *
  generalize mk s = xs at *
  go_enter Tryz.func63, Tryz.ntmps63
  go_wp2_with (go_at_call 26; refine HS.out.mono ?_; rintro e w1 ⟨v, rfl, ⟨A, cap, rfl, hcap, hat⟩, hb⟩; rw [texts_len])
  rw [texts_len] at hcap hat
  have Hat := Lib.hid hat
  have Hb := Lib.hid hb
  clear hat hb
  have hL9 : (L.length : Int) ≤ 100001 := by omega
  go_loopw [4] (fun i wr => ∃ k : Nat, k ≤ L.length ∧ i = .int .i64 (k : Int) ∧ (∀ t ∈ L.take k, Pth.Name t) ∧ Below w1.heap.size w1 wr) (fun i _ => L.length - (intOf i).toNat)
  case atStart => exact ⟨0, Nat.zero_le _, rfl, by simp, Below.refl _ _⟩
  case round =>
    obtain ⟨k, hk, rfl, hall, hbel⟩ := hrel
    have Hall := Lib.hid hall
    have Hbel := Lib.hid hbel
    clear hall hbel
    have hk0 : (0 : Int) ≤ (k : Int) := by omega
    by_cases hlt : k < L.length
    · have hk1 : (k : Int) < (L.length : Int) := by omega
      obtain ⟨ub, uo, rfl, -, hub, huk⟩ := Hat.out (by omega)
      obtain ⟨t, ht⟩ : ∃ t, L[k]? = some t := ⟨_, List.getElem?_eq_getElem hlt⟩
      obtain ⟨hl, he⟩ := List.getElem?_eq_some_iff.1 ht
      have hmem : t ∈ L := List.mem_of_getElem? ht
      have hc1 : wr.cell? ⟨ub, uo + k, none⟩ = some (.string (mk t)) := (Hbel.out.cell (p := ⟨ub, uo + k, none⟩) hub).trans (huk k _ (texts_at ht))
      have HNt := Lib.hid (HN.out t hmem wr)
      have htk : L.take (k + 1) = L.take k ++ [t] := by rw [List.take_succ_eq_append_getElem hl, he]
      clear huk ht he hl
      by_cases hn : Pth.Name t
      · rw [decide_eq_true hn] at HNt
        have Hnext : Hid (∀ x ∈ L.take (k + 1), Pth.Name x) := Lib.hid (fun x hx => by
          rw [htk, List.mem_append] at hx
          rcases hx with hx | hx
          · exact Hall.out x hx
          · rw [List.mem_singleton.1 hx]; exact hn)
        clear hn htk hmem
        generalize mk t = y at *
        go_wp2_with (go_at_call 86; refine HNt.out.mono ?_; rintro e w2 ⟨rfl, hb2⟩)
        refine ⟨⟨k + 1, by omega, rfl, Hnext.out, Hbel.out.trans (hb2.mono Hbel.out.size)⟩, ?_⟩
        show L.length - ((k : Int) + 1).toNat < L.length - (k : Int).toNat
        omega
      · rw [decide_eq_false hn] at HNt
        have HF : Hid (R = false) := Lib.hid (by
          cases R with
          | false => rfl
          | true => exact absurd ((HR.out.1 rfl).1 t hmem) hn)
        clear hn htk hmem
        generalize mk t = y at *
        go_wp2_with (go_at_call 86; refine HNt.out.mono ?_; rintro e w2 ⟨rfl, hb2⟩)
        go_ret
        exact ⟨by rw [HF.out]; rfl, Hb.out.trans ((Hbel.out.trans (hb2.mono Hbel.out.size)).mono Hb.out.size)⟩
    · obtain rfl : k = L.length := by omega
      have Hall2 : Hid (∀ t ∈ L, Pth.Name t) := Lib.hid (by have := Hall.out; rw [List.take_length] at this; exact this)
      have hcase : (decide ((xs.size : Int) ≤ 40) = false ∧ Hid (R = false)) ∨ (decide ((xs.size : Int) ≤ 40) = true ∧ decide ((L.length : Int) ≤ 6) = false ∧ Hid (R = false)) ∨ (decide ((xs.size : Int) ≤ 40) = true ∧ decide ((L.length : Int) ≤ 6) = true ∧ Hid (R = true)) := by
        have e := Hlen.out
        by_cases h1 : s.length ≤ 40
        · by_cases h2 : L.length ≤ 6
          · exact Or.inr (Or.inr ⟨decide_eq_true (by omega), decide_eq_true (by omega), Lib.hid (HR.out.2 ⟨Hall2.out, h1, h2⟩)⟩)
          · refine Or.inr (Or.inl ⟨decide_eq_true (by omega), decide_eq_false (by omega), Lib.hid ?_⟩)
            cases R with
            | false => rfl
            | true => exact absurd (HR.out.1 rfl).2.2 h2
        · refine Or.inl ⟨decide_eq_false (by omega), Lib.hid ?_⟩
          cases R with
          | false => rfl
          | true => exact absurd (HR.out.1 rfl).2.1 h1
      rcases hcase with ⟨g1, hf⟩ | ⟨g1, g2, hf⟩ | ⟨g1, g2, hf⟩
      all_goals
        go_wp2_with fail
        go_ret
        exact ⟨by rw [hf.out]; rfl, Hb.out.trans (Hbel.out.mono Hb.out.size)⟩
end Go.Proofs.YtabnfaonlkipbaaGreatDoor
/- What is appended to the call's own: where it stands then (in the block that it had, or in a new one). No program is spoken of. -/
namespace Go.Proofs.YtabnfaonlkipbaaGreatDoor
open Go.RowKit

/-- The value's block is as it was, or new. -/
def Near (w : World) (v v' : Value) : Prop := v'.ownBlock = v.ownBlock ∨ ∀ g, v'.ownBlock = some g → w.heap.size ≤ g
set_option maxRecDepth 100000 in
theorem Near.refl (w : World) (v : Value) : Near w v v := Or.inl rfl
set_option maxRecDepth 100000 in
theorem Near.apart {w w' : World} {u v v' : Value} {base t size n : Nat} {xs : List Value} (h : Near w' v v') (ha : ∀ g, u.ownBlock = some g → v.ownBlock ≠ some g) (hu : w.ownsRow base t size u n xs) (hs : w.heap.size ≤ w'.heap.size) : ∀ g, u.ownBlock = some g → v'.ownBlock ≠ some g := by
  intro g hg e
  rcases h with h | h
  · exact ha g hg (h ▸ e)
  · have := (hu.lt g hg).2
    have := h g e
    omega

section
variable {P : Program} {α : Type} {k : Nat} {f : α → List Value}

set_option maxRecDepth 100000 in
theorem append_near {w : World} (base : Nat) (t ty e : TypeId) (i : TypeInfo) (z : Value) (size bytes : Nat) (ht : P.underlying t = some (.slice e)) (hi : P.info? e = some i) (hz : i.zero = some z)
    (hsize : i.size = size) (hby : i.bytes = bytes) (hzs : z.cells.size = size) (hsz : 0 < size) {v : Value} {n : Nat} {xs : List Value} (hown : w.ownsRow base e size v n xs)
    (a : Addr) (m c : Nat) (news : List Value) (hl : news.length = m * size) (hnews : ∀ j u, news[j]? = some u → w.cell? (a.add j) = some u) (h1 : ∀ u ∈ news, u.oneCell' = true)
    (h63 : n + m ≤ maxLen) (hbytes : (n + m) * bytes ≤ 140737488355328) {v' : Value} {w' : World} (hr : (Builtin.append_ #[t, t] ty #[v, .slice (some a) m c]).run P w = .ok v' w') : Near w v v' := by
  have hsmall : n + m ≤ 9223372036854775807 := by simp only [maxLen] at h63; omega
  rcases hown.2 with ⟨rfl, rfl⟩ | ⟨g, cap, cur, rfl, hbg, hg, hnc, hcm, hcs, htake⟩
  · obtain ⟨v2, w2, r1, r2, -, -⟩ := run_append_own w w.heap.size t ty e i z size bytes ht hi hz hsize hby hzs hsz (.slice none 0 0) 0 [] (World.ownsRow_nil _ _ _ _) a m c news hl hnews h1 h63 hbytes (Nat.le_refl _)
    rw [hr] at r1
    injection r1 with e1 e2
    subst e1
    exact Or.inr (fun g hg => (r2.lt g hg).1)
  · subst hsize
    subst hby
    by_cases hroom : n + m ≤ cap
    · have hfit : n * i.size + news.length ≤ cur.size := by rw [hl, hcs, ← Nat.add_mul]; exact Nat.mul_le_mul_right _ hroom
      have r1 := run_append_room (P := P) w t ty e i ht hi g n cap cur hg a m c news hl hnews h1 hroom hfit
      rw [hr] at r1
      injection r1 with e1 e2
      subst e1
      exact Or.inl rfl
    · have r1 := run_append_grow (P := P) w t ty e i z ht hi hz ⟨g, 0, none⟩ n cap xs hown.1 (hown.cells (g := g) rfl) a m c news hl hnews (by omega) (by omega) (growslice_fits (by omega) hbytes)
      rw [hr] at r1
      injection r1 with e1 e2
      subst e1
      exact Or.inr (fun g' hg' => by have : w.heap.size = g' := by simpa [Value.ownBlock] using hg'
                                     omega)

set_option maxRecDepth 100000 in
/-- The call's own, and behind it what another slice reads as. -/
theorem join_near {w : World} (base : Nat) (t ty e : TypeId) (i : TypeInfo) (z : Value) (bytes : Nat) (ht : P.underlying t = some (.slice e)) (hi : P.info? e = some i) (hz : i.zero = some z) (hsize : i.size = k) (hby : i.bytes = bytes) (hzs : z.cells.size = k) (hsz : 0 < k)
    {v xv : Value} {n : Nat} {xs : List Value} {F : Nat → Prop} {l : List α} (hown : w.ownsRow base e k v n xs) (hx : Rws k f w F xv l) (hk : ∀ x ∈ l, (f x).length = k) (h1 : ∀ x ∈ l, ∀ u ∈ f x, u.oneCell' = true)
    (h63 : n + l.length ≤ maxLen) (hbytes : (n + l.length) * bytes ≤ 140737488355328) (hbase : base ≤ w.heap.size) :
    ∃ v' w', (Builtin.append_ #[t, t] ty #[v, xv]).run P w = .ok v' w' ∧ w'.ownsRow base e k v' (n + l.length) (xs ++ l.flatMap f) ∧ w.grownBy w' v.ownBlock ∧ Near w v v' := by
  obtain ⟨v', w', r1, r2, r3⟩ := join_rows (P := P) base t ty e i z bytes ht hi hz hsize hby hzs hsz hown hx hk h1 h63 hbytes hbase
  refine ⟨v', w', r1, r2, r3, ?_⟩
  obtain ⟨A, c, rfl, hc, hat⟩ := hx
  have hone : ∀ u ∈ l.flatMap f, u.oneCell' = true := by
    intro u hu
    obtain ⟨x, hx, hu⟩ := List.mem_flatMap.1 hu
    exact h1 x hx u hu
  have hgo : ∀ ad : Addr, A = some ad → (∀ j u, (l.flatMap f)[j]? = some u → w.cell? (ad.add j) = some u) → Near w v v' := by
    rintro ad rfl hnews
    exact append_near base t ty e i z k bytes ht hi hz hsize hby hzs hsz hown ad l.length c (l.flatMap f) (rows_len l hk) hnews hone h63 hbytes r1
  by_cases h0 : 0 < l.length
  · obtain ⟨b, o, rfl, -, hbl, hcell⟩ := hat h0
    refine hgo _ rfl (fun j u hu => ?_)
    obtain ⟨m, x, r, e1, e2, rfl⟩ := rows_of l hk j u hu
    rw [Go.WideShapes.add_plain, ← Nat.add_assoc]
    exact hcell m x e1 r u e2
  · have hl : l = [] := List.eq_nil_of_length_eq_zero (by omega)
    subst hl
    cases A with
    | none =>
      have r4 := join_nothing (P := P) base t ty e i k c ht hi v n xs hown
      rw [show ([] : List α).length = 0 from rfl, r4] at r1
      injection r1 with e1 e2
      exact Or.inl (by rw [e1])
    | some ad => exact hgo ad rfl (fun j u hu => by simp at hu)

set_option maxRecDepth 100000 in
theorem wp_joins {ops : Array Oper} {rest : List Oper} {o : Oper} {a : Act} {w : World} {Q : Exit → Act → World → Prop} (hgd : o.guard = none) (s x : Operand) (t : TypeId)
    (ho : o.op = .call { callee := .builtin .append, args := #[s, x], argTypes := #[t, t] }) (base : Nat) (e : TypeId) (i : TypeInfo) (z : Value) (bytes : Nat) (ht : P.underlying t = some (.slice e)) (hi : P.info? e = some i) (hz : i.zero = some z)
    (hsize : i.size = k) (hby : i.bytes = bytes) (hzs : z.cells.size = k) (hsz : 0 < k) {v xv : Value} {n : Nat} {xs : List Value} {F : Nat → Prop} {l : List α} (hs : a.eval s = v) (hx : a.eval x = xv)
    (hown : w.ownsRow base e k v n xs) (hr : Rws k f w F xv l) (hk : ∀ x ∈ l, (f x).length = k) (h1 : ∀ x ∈ l, ∀ u ∈ f x, u.oneCell' = true) (h63 : n + l.length ≤ maxLen) (hbytes : (n + l.length) * bytes ≤ 140737488355328) (hbase : base ≤ w.heap.size)
    (h : ∀ v' w', w'.ownsRow base e k v' (n + l.length) (xs ++ l.flatMap f) → w.grownBy w' v.ownBlock → Near w v v' → wpList P ops Q rest (a.put o.dst v') w') : wpList P ops Q (o :: rest) a w :=
  wpList_plain hgd fun _ hK => by
    obtain ⟨v', w', r1, r2, r3, r4⟩ := join_near (P := P) base t o.type e i z bytes ht hi hz hsize hby hzs hsz hown hr hk h1 h63 hbytes hbase
    unfold Oper.wp execOp
    simp only [ho, resolve, invoke, builtin, Sem.run_bind, Sem.run_pure, Result.andThen_ok, List.map_toArray, List.map_cons, List.map_nil, hs, hx, r1]
    exact hK _ _ (h v' w' r2 r3 r4)
set_option maxRecDepth 100000 in
theorem step_near {ops : Array Oper} {o : Oper} {a : Act} {w : World} {K : Act → World → Prop} {Q : Exit → Act → World → Prop} {E : Prop} (hgd : o.guard = none) (s x : Operand) (t : TypeId)
    (ho : o.op = .call { callee := .builtin .append, args := #[s, x], argTypes := #[t, t] }) (base : Nat) (e : TypeId) (i : TypeInfo) (z : Value) (bytes : Nat) (ht : P.underlying t = some (.slice e)) (hi : P.info? e = some i) (hz : i.zero = some z)
    (hsize : i.size = k) (hby : i.bytes = bytes) (hzs : z.cells.size = k) (hsz : 0 < k) {v xv : Value} {n : Nat} {xs : List Value} {F : Nat → Prop} {l : List α} (hs : a.eval s = v) (hx : a.eval x = xv)
    (hown : w.ownsRow base e k v n xs) (hr : Rws k f w F xv l) (hk : ∀ x ∈ l, (f x).length = k) (h1 : ∀ x ∈ l, ∀ u ∈ f x, u.oneCell' = true) (h63 : n + l.length ≤ maxLen) (hbytes : (n + l.length) * bytes ≤ 140737488355328) (hbase : base ≤ w.heap.size)
    (h : ∀ v' w', w'.ownsRow base e k v' (n + l.length) (xs ++ l.flatMap f) → w.grownBy w' v.ownBlock → Near w v v' → K (a.put o.dst v') w') :
    if Region.wanted o (yielded ops a.tmps) = true then Oper.wp P o a w K Q else E := by
  rw [if_pos (by simp [Region.wanted, hgd])]
  obtain ⟨v', w', r1, r2, r3, r4⟩ := join_near (P := P) base t o.type e i z bytes ht hi hz hsize hby hzs hsz hown hr hk h1 h63 hbytes hbase
  unfold Oper.wp execOp
  simp only [ho, resolve, invoke, builtin, Sem.run_bind, Sem.run_pure, Result.andThen_ok, List.map_toArray, List.map_cons, List.map_nil, hs, hx, r1]
  exact h v' w' r2 r3 r4
end

set_option maxRecDepth 100000 in
/-- Whose block was left alone is still the call's own. -/
theorem own_left {w w' : World} {base t size n : Nat} {v : Value} {xs : List Value} {r : Option Nat} (h : w.ownsRow base t size v n xs) (hg : w.grownBy w' r) (hne : ∀ g, v.ownBlock = some g → r ≠ some g) : w'.ownsRow base t size v n xs := by
  refine ⟨h.1, ?_⟩
  rcases h.2 with h2 | ⟨g, cap, cur, rfl, hb, hgb, rest⟩
  · exact .inl h2
  · have hlt := (h.lt g rfl).2
    exact .inr ⟨g, cap, cur, rfl, hb, (hg.block g hlt (fun e => hne g rfl e.symm)).trans hgb, rest⟩
end Go.Proofs.YtabnfaonlkipbaaGreatDoor
