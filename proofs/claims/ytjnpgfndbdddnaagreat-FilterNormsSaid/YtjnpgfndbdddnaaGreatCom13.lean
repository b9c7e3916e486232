/- The landed path: Covers, Meet, Parent; a text parted at its first / (strings.Cut). -/
import Derived.Test.YtjnpgfndbdddnaaGreatCom10
import Derived.Test.YtjnpgfndbdddnaaGreatCom5
import Derived.Test.YtjnpgfndbdddnaaGreatCom12
import Derived.Test.YtjnpgfndbdddnaaGreatCom11
import Derived.Test.YtjnpgfndbdddnaaGreatCom9
import Derived.BigQuiet
set_option linter.unusedSimpArgs false
set_option linter.unusedVariables false
namespace Go.Proofs.YtjnpgfndbdddnaaGreat
open Go.RowKit

set_option maxRecDepth 100000 in
theorem extract_mk (l : List UInt8) (i j : Nat) : (mk l).extract i j = mk ((l.drop i).take (j - i)) := bytes_ext (by rw [Lib.extract_data, mk_data, mk_data])

def slashT : ByteArray := ⟨#[47]⟩

set_option maxRecDepth 100000 in
set_option maxHeartbeats 1600000 in
theorem lite_cut_no (s : List UInt8) (w : World) (hs : s.length ≤ 100000) (h : ∀ c ∈ s, c.toNat ≠ 47) :
    Calls Tryz.prog 80 #[.string (mk s), .string ⟨#[47]⟩] w fun e w' => e = .returned (.tuple #[.string (mk s), .string ⟨#[]⟩, .bool false]) ∧ Below w.heap.size w w' := by
  have hi : Lib.indexByte s 47 = -1 := by
    rcases Pth.index_cases s with ⟨h1, -⟩ | ⟨a, b, rfl, -, -⟩
    · exact h1
    · exact absurd rfl (h 47 (by simp))
  have HI := fun W => Tryz.stringslite_Index_one (mk s) 47 W
  rw [mk_data, hi] at HI
  have HI0 := HI
  clear HI
  have HI := Lib.hid HI0
  clear HI0
  clear h hi
  generalize mk s = x at *
  go_enter Tryz.func80, Tryz.ntmps80
  go_wp2_with (go_at_call 99; refine (HI.out _).mono ?_; rintro e w1 ⟨rfl, rfl⟩)
  go_ret3
  exact ⟨rfl, Below.refl _ _⟩

set_option maxRecDepth 100000 in
set_option maxHeartbeats 1600000 in
theorem lite_cut_at (a b : List UInt8) (w : World) (hs : (a ++ 47 :: b).length ≤ 100000) (h : ∀ c ∈ a, c.toNat ≠ 47) :
    Calls Tryz.prog 80 #[.string (mk (a ++ 47 :: b)), .string ⟨#[47]⟩] w fun e w' => e = .returned (.tuple #[.string (mk a), .string (mk b), .bool true]) ∧ Below w.heap.size w w' := by
  have hi : Lib.indexByte (a ++ 47 :: b) 47 = (a.length : Int) := by
    rcases Pth.index_cases (a ++ 47 :: b) with ⟨-, h2⟩ | ⟨a2, b2, e, h2, h3⟩
    · exact absurd rfl (h2 47 (by simp))
    · have : a2 = a := by
        rcases List.append_eq_append_iff.1 e with ⟨c, e1, e2⟩ | ⟨c, e1, e2⟩
        · cases c with
          | nil => simpa using e1
          | cons y c =>
            injection e2 with e2 e3
            exact absurd rfl (h2 47 (by rw [e1, e2]; simp))
        · cases c with
          | nil => simpa using e1.symm
          | cons y c =>
            injection e2 with e2 e3
            exact absurd rfl (h 47 (by rw [e1, e2]; simp))
      rw [h3, this]
  have HI := fun W => Tryz.stringslite_Index_one (mk (a ++ 47 :: b)) 47 W
  rw [mk_data, hi] at HI
  have HI0 := HI
  clear HI
  have HI := Lib.hid HI0
  clear HI0
  have hl : (mk (a ++ 47 :: b)).size = a.length + 1 + b.length := by rw [mk_len, List.length_append, List.length_cons]; omega
  have x1 : (mk (a ++ 47 :: b)).extract 0 a.length = mk a := by rw [extract_mk]; congr 1; simp
  have x2 : (mk (a ++ 47 :: b)).extract (a.length + 1) (mk (a ++ 47 :: b)).size = mk b := by
    rw [hl, extract_mk]; congr 1
    rw [List.drop_append, List.drop_eq_nil_of_le (by omega)]
    simp
  rw [List.length_append, List.length_cons] at hs
  have g0 : (0 : Int) ≤ (a.length : Int) := by omega
  have g1 : (a.length : Int) ≤ 100000 := by omega
  have g2 : (a.length : Int) ≤ ((mk (a ++ 47 :: b)).size : Int) := by omega
  have g3 : (a.length : Int) + 1 ≤ ((mk (a ++ 47 :: b)).size : Int) := by omega
  have g4 : ((mk (a ++ 47 :: b)).size : Int) ≤ 100001 := by omega
  have X1 := Lib.hid x1
  have X2 := Lib.hid x2
  clear h hi x1 x2 hl hs
  generalize mk (a ++ 47 :: b) = x at *
  generalize mk a = y at *
  generalize mk b = z at *
  generalize a.length = n at *
  go_enter Tryz.func80, Tryz.ntmps80
  go_wp2_with (go_at_call 99; refine (HI.out _).mono ?_; rintro e w1 ⟨rfl, rfl⟩)
  go_quiet (fail)
  go_wp2_with fail
  go_ret3
  exact ⟨by show Ending.returned (.tuple #[.string (x.extract 0 n), .string (x.extract (n + 1) x.size), .bool true]) = _; rw [X1.out, X2.out], below_drews' _ _⟩

set_option maxRecDepth 100000 in
set_option maxHeartbeats 1600000 in
theorem cut_no (s : List UInt8) (w : World) (hs : s.length ≤ 100000) (h : ∀ c ∈ s, c.toNat ≠ 47) :
    Calls Tryz.prog 60 #[.string (mk s), .string ⟨#[47]⟩] w fun e w' => e = .returned (.tuple #[.string (mk s), .string ⟨#[]⟩, .bool false]) ∧ Below w.heap.size w w' := by
  have HI := Lib.hid (fun W => lite_cut_no s W hs h)
  clear h hs
  generalize mk s = x at *
  go_enter Tryz.func60, Tryz.ntmps60
  go_wp2_with (go_at_call 80; refine (HI.out _).mono ?_; rintro e w1 ⟨rfl, hb⟩)
  go_ret3
  exact ⟨rfl, hb⟩

set_option maxRecDepth 100000 in
set_option maxHeartbeats 1600000 in
theorem cut_at (a b : List UInt8) (w : World) (hs : (a ++ 47 :: b).length ≤ 100000) (h : ∀ c ∈ a, c.toNat ≠ 47) :
    Calls Tryz.prog 60 #[.string (mk (a ++ 47 :: b)), .string ⟨#[47]⟩] w fun e w' => e = .returned (.tuple #[.string (mk a), .string (mk b), .bool true]) ∧ Below w.heap.size w w' := by
  have HI := Lib.hid (fun W => lite_cut_at a b W hs h)
  clear h hs
  generalize mk (a ++ 47 :: b) = x at *
  generalize mk a = y at *
  generalize mk b = z at *
  go_enter Tryz.func60, Tryz.ntmps60
  go_wp2_with (go_at_call 80; refine (HI.out _).mono ?_; rintro e w1 ⟨rfl, hb⟩)
  go_ret3
  exact ⟨rfl, hb⟩

set_option maxRecDepth 100000 in
theorem hasp (s p : List UInt8) : Lib.hasPrefix s p = decide (p.length ≤ s.length ∧ s.take p.length = p) := by
  unfold Lib.hasPrefix
  rw [Bool.eq_iff_iff, List.isPrefixOf_iff_prefix, decide_eq_true_eq, List.prefix_iff_eq_take]
  constructor
  · intro h; exact ⟨by have := congrArg List.length h; rw [List.length_take] at this; omega, h.symm⟩
  · intro h; exact h.2.symm

set_option maxRecDepth 100000 in
theorem hasp_slash (s : List UInt8) : Lib.hasPrefix s [47] = decide (s[0]? = some 47) := by
  cases s with
  | nil => rfl
  | cons c s =>
    show (47 == c && true) = _
    rw [Bool.and_true, Bool.eq_iff_iff, beq_iff_eq, decide_eq_true_eq]
    simp [eq_comm]

set_option maxRecDepth 100000 in
set_option maxHeartbeats 1600000 in
theorem pth_covers (a b : List UInt8) (w : World) :
    Calls Tryz.prog 32 #[.string (mk a), .string (mk b)] w fun e w' => e = .returned (.bool (decide (Pth.Covers a b))) ∧ Below w.heap.size w w' := by
  have ia : (mk a).toList.isEmpty = decide (a = []) := by rw [Lib.toList_data, mk_data]; cases a <;> rfl
  have ea : ((mk a).toList == []) = decide (a = []) := by rw [Lib.toList_data, mk_data]; cases a <;> rfl
  have eb : ((mk a).toList == (mk b).toList) = decide (a = b) := by
    rw [Lib.toList_data, Lib.toList_data, mk_data, mk_data]
    by_cases h : a = b
    · rw [h, decide_eq_true rfl]; exact beq_self_eq_true _
    · rw [decide_eq_false h, beq_eq_false_iff_ne]; exact h
  by_cases h1 : a = []
  · have hc : Hid (decide (Pth.Covers a b) = true) := Lib.hid (decide_eq_true (Or.inl h1))
    rw [decide_eq_true h1] at ia ea
    clear h1 eb
    generalize mk a = x at *
    generalize mk b = y at *
    go_enter Tryz.func32, Tryz.ntmps32
    go_wp2_with fail
    go_ret
    exact ⟨by rw [hc.out]; rfl, Below.refl _ _⟩
  · rw [decide_eq_false h1] at ia ea
    by_cases h2 : a = b
    · have hc : Hid (decide (Pth.Covers a b) = true) := Lib.hid (decide_eq_true (Or.inr (Or.inl h2)))
      rw [decide_eq_true h2] at eb
      clear h1 h2
      generalize mk a = x at *
      generalize mk b = y at *
      go_enter Tryz.func32, Tryz.ntmps32
      go_wp2_with fail
      go_ret
      exact ⟨by rw [hc.out]; rfl, Below.refl _ _⟩
    · rw [decide_eq_false h2] at eb
      have hcov : Pth.Covers a b ↔ (a.length < b.length ∧ b.take a.length = a ∧ b[a.length]? = some 47) := by
        unfold Pth.Covers
        exact ⟨fun k => (k.resolve_left h1).resolve_left h2, fun k => Or.inr (Or.inr k)⟩
      have HP := fun W => Tryz.strings_CutPrefix (mk b) (mk a) W
      rw [mk_data, mk_data] at HP
      have hh := hasp b a
      unfold Lib.trimPrefix at HP
      by_cases h3 : a.length ≤ b.length ∧ b.take a.length = a
      · rw [decide_eq_true h3] at hh
        have HP : Hid (∀ W, Calls Tryz.prog 47 #[.string (mk b), .string (mk a)] W fun e w' => e = .returned (.tuple #[.string (mk (b.drop a.length)), .bool true]) ∧ w' = W) := Lib.hid (fun W => by
          have := HP W
          rw [hh, if_pos rfl] at this
          exact this)
        have HH := fun W => Tryz.strings_HasPrefix (mk (b.drop a.length)) ⟨#[47]⟩ W
        rw [mk_data] at HH
        have h47 : Lib.hasPrefix (b.drop a.length) [47] = decide (Pth.Covers a b) := by
          rw [hasp_slash, List.getElem?_drop, Nat.add_zero, decide_eq_decide, hcov]
          constructor
          · intro h
            have := (List.getElem?_eq_some_iff.1 h).1
            exact ⟨this, h3.2, h⟩
          · intro h; exact h.2.2
        have HH : Hid (∀ W, Calls Tryz.prog 48 #[.string (mk (b.drop a.length)), .string ⟨#[47]⟩] W fun e w' => e = .returned (.bool (decide (Pth.Covers a b))) ∧ w' = W) := Lib.hid (fun W => by
          have := HH W
          rw [show (⟨#[47]⟩ : ByteArray).data.toList = [47] from rfl, h47] at this
          exact this)
        clear h47 hh h3 hcov h1 h2
        generalize decide (Pth.Covers a b) = R at *
        generalize mk (b.drop a.length) = z at *
        generalize mk a = x at *
        generalize mk b = y at *
        go_enter Tryz.func32, Tryz.ntmps32
        go_wp2_with (first
          | (go_at_call 47; with_reducible refine (HP.out _).mono ?_; rintro e w1 ⟨rfl, rfl⟩)
          | (go_at_call 48; with_reducible refine (HH.out _).mono ?_; rintro e w1 ⟨rfl, rfl⟩))
        go_ret
        exact ⟨rfl, Below.refl _ _⟩
      · rw [decide_eq_false h3] at hh
        have HP : Hid (∀ W, Calls Tryz.prog 47 #[.string (mk b), .string (mk a)] W fun e w' => e = .returned (.tuple #[.string (mk b), .bool false]) ∧ w' = W) := Lib.hid (fun W => by
          have := HP W
          rw [hh, if_neg (by decide)] at this
          exact this)
        have hc : Hid (decide (Pth.Covers a b) = false) := Lib.hid (decide_eq_false (fun k => h3 (by have := hcov.1 k; exact ⟨by omega, this.2.1⟩)))
        clear hh h3 hcov h1 h2
        generalize mk a = x at *
        generalize mk b = y at *
        go_enter Tryz.func32, Tryz.ntmps32
        go_wp2_with (go_at_call 47; refine (HP.out _).mono ?_; rintro e w1 ⟨rfl, rfl⟩)
        go_ret
        exact ⟨by rw [hc.out]; rfl, Below.refl _ _⟩

set_option maxRecDepth 100000 in
set_option maxHeartbeats 1600000 in
theorem pth_parent (a : List UInt8) (w : World) (ha : a.length ≤ 100000) :
    Calls Tryz.prog 39 #[.string (mk a)] w fun e w' => e = .returned (.string (mk (Pth.parent a))) ∧ Below w.heap.size w w' := by
  have HL := fun W => Tryz.strings_LastIndex_one (mk a) ⟨#[47]⟩ rfl (by rw [mk_len]; omega) W
  have ls : (mk a).size = a.length := mk_len a
  rcases Pth.last_cases (mk a) with ⟨h1, h2⟩ | ⟨i, hi, h1, h2⟩
  · rw [mk_data] at h2
    have HL : Hid (∀ W, Calls Tryz.prog 57 #[.string (mk a), .string ⟨#[47]⟩] W fun e w' => e = .returned (.int .i64 (-1)) ∧ w' = W) := Lib.hid (fun W => (HL W).mono (fun e w' hh => ⟨by rw [hh.1]; exact congrArg (fun n => Ending.returned (.int .i64 n)) h1, hh.2⟩))
    rw [h2]
    have x1 : Hid ((mk a).extract 0 0 = mk []) := Lib.hid (by rw [extract_mk]; simp)
    have g4 : ((mk a).size : Int) ≤ 100000 := by omega
    clear h1 h2 ls
    generalize mk a = x at *
    go_enter Tryz.func39, Tryz.ntmps39
    go_wp2_with (go_at_call 57; refine (HL.out _).mono ?_; rintro e w1 ⟨rfl, rfl⟩)
    go_ret
    exact ⟨by show Ending.returned (.string (x.extract 0 (max (-1) 0 : Int).toNat)) = _; rw [show (max (-1) 0 : Int).toNat = 0 from rfl, x1.out], Below.refl _ _⟩
  · rw [mk_data] at h2
    have HL : Hid (∀ W, Calls Tryz.prog 57 #[.string (mk a), .string ⟨#[47]⟩] W fun e w' => e = .returned (.int .i64 (i : Int)) ∧ w' = W) := Lib.hid (fun W => (HL W).mono (fun e w' hh => ⟨by rw [hh.1]; exact congrArg (fun n => Ending.returned (.int .i64 n)) h1, hh.2⟩))
    rw [h2]
    have x1 : Hid ((mk a).extract 0 i = mk (a.take i)) := Lib.hid (by rw [extract_mk]; simp)
    have g1 : (0 : Int) ≤ (i : Int) := by omega
    have g2 : (i : Int) ≤ ((mk a).size : Int) := by omega
    have g4 : ((mk a).size : Int) ≤ 100000 := by omega
    clear h1 h2 ls hi
    generalize mk a = x at *
    go_enter Tryz.func39, Tryz.ntmps39
    go_wp2_with (go_at_call 57; refine (HL.out _).mono ?_; rintro e w1 ⟨rfl, rfl⟩)
    go_ret
    exact ⟨by rw [← x1.out]; rfl, Below.refl _ _⟩
end Go.Proofs.YtjnpgfndbdddnaaGreat
/- The landed path: Names, Check. -/
set_option linter.unusedSimpArgs false
set_option linter.unusedVariables false
namespace Go.Proofs.YtjnpgfndbdddnaaGreat
open Go.RowKit

set_option maxRecDepth 100000 in
theorem Pth.own_at {w w' : World} {base t size n : Nat} {v : Value} {xs : List Value} (h : w.ownsRow base t size v n xs) (k : ∀ i, v.ownBlock = some i → w'.heap[i]? = w.heap[i]?) : w'.ownsRow base t size v n xs := by
  refine ⟨h.1, ?_⟩
  rcases h.2 with hn | ⟨g, cap, cur, rfl, hb, hgg, rest⟩
  · exact .inl hn
  · exact .inr ⟨g, cap, cur, rfl, hb, (k g rfl).trans hgg, rest⟩

/-- While names are told: those that are done (d), those that the function was told (e). -/
structure NmAt (w : World) (d e : List (List UInt8)) (v : Value) (wr : World) : Prop where
  own : wr.ownsRow (w.heap.size + 2) 9 1 v d.length (texts d)
  r1 : Row wr w.heap.size 3 #[cnt e]
  r2 : Row wr (w.heap.size + 1) 3 #[room e]
  bel : Below w.heap.size w wr
  size : w.heap.size + 2 ≤ wr.heap.size

set_option maxRecDepth 100000 in
theorem NmAt.start (w : World) : NmAt w [] [] (.slice none 0 0) ((w.alloc (.cells #[.int .i64 6] 3)).alloc (.cells #[.int .i64 41] 3)) := by
  refine ⟨World.ownsRow_nil _ _ _ _, (Row.made w _ _).behindNew _, ?_, ((Below.refl _ w).alloc (Nat.le_refl _) _).alloc (by simp) _, by simp⟩
  have := Row.made (w.alloc (.cells #[.int .i64 6] 3)) 3 #[.int .i64 41]
  rw [show (w.alloc (.cells #[.int .i64 6] 3)).heap.size = w.heap.size + 1 from by simp] at this
  exact this

set_option maxRecDepth 100000 in
theorem NmAt.below {w w1 w2 : World} {d e : List (List UInt8)} {v : Value} (h : NmAt w d e v w1) (k : Below w1.heap.size w1 w2) : NmAt w d e v w2 :=
  ⟨Pth.own_at h.own (fun i hi => k.block i (h.own.lt _ hi).2), h.r1.below k h.r1.inHeap, h.r2.below k h.r2.inHeap, h.bel.trans (k.mono h.bel.size), Nat.le_trans h.size k.size⟩

set_option maxRecDepth 100000 in
theorem NmAt.told {w w1 w2 : World} {d e e' : List (List UInt8)} {v : Value} (h : NmAt w d e v w1) (r1 : Row w2 w.heap.size 3 #[cnt e']) (r2 : Row w2 (w.heap.size + 1) 3 #[room e']) (k : Kept (fun i => i = w.heap.size ∨ i = w.heap.size + 1) w1 w2) : NmAt w d e' v w2 :=
  ⟨Pth.own_at h.own (fun i hi => k.block i (h.own.lt _ hi).2 (by have := (h.own.lt _ hi).1; omega)), r1, r2, h.bel.trans (k.below h.bel.size (fun i hi => by omega)), Nat.le_trans h.size k.size⟩

set_option maxRecDepth 100000 in
theorem nm_more {w wr w2 : World} {d e : List (List UInt8)} {v v' : Value} {o : Obj} {x : List UInt8} (h : NmAt w d e v wr) (hown : w2.ownsRow (w.heap.size + 2) 9 1 v' (d.length + 1) (texts d ++ [.string (mk x)])) (hg : (wr.alloc o).grownBy w2 v.ownBlock) : NmAt w (d ++ [x]) e v' w2 := by
  have hne : ∀ k, v.ownBlock = some k → w.heap.size + 2 ≤ k := fun k hk => (h.own.lt k hk).1
  refine ⟨?_, ?_, ?_, ?_, ?_⟩
  · rw [List.length_append, List.length_singleton]
    simpa [texts] using hown
  · exact (h.r1.behindNew o).grown hg (fun e => by have := hne _ e; omega)
  · exact (h.r2.behindNew o).grown hg (fun e => by have := hne _ e; omega)
  · exact (h.bel.alloc h.bel.size o).grown hg (by have := h.bel.size; simp; omega) (fun k hk => by have := hne k hk; omega)
  · have := hg.size; have := h.size; simp at *; omega

set_option maxRecDepth 100000 in
theorem NmAt.cells {w w' : World} {d e : List (List UInt8)} {v : Value} (h : NmAt w d e v w') : Cells w' (NewIn w w') v (texts d) := Cells.ofOwn h.own (fun _ _ h1 h2 => ⟨by omega, h2⟩)

def moreIn (o m : Value) : Nat := match m, o with | .bool true, .string x => x.size + 1 | _, _ => 0

set_option maxRecDepth 100000 in
/-- What comes first of a text, what is left, and whether anything is. -/
theorem cut_parts (r : List UInt8) (hr : r.length ≤ 100000) : ∃ (t r' : List UInt8) (m : Bool), (∀ W, Calls Tryz.prog 60 #[.string (mk r), .string ⟨#[47]⟩] W fun e w' => e = .returned (.tuple #[.string (mk t), .string (mk r'), .bool m]) ∧ Below W.heap.size W w') ∧
    Pth.splitA [] r = t :: (if m then Pth.splitA [] r' else []) ∧ t.length ≤ r.length ∧ r'.length ≤ r.length ∧ moreIn (.string (mk r')) (.bool m) < moreIn (.string (mk r)) (.bool true) := by
  rcases Pth.index_cases r with ⟨-, h⟩ | ⟨a, b, rfl, h, -⟩
  · refine ⟨r, [], false, fun W => cut_no r W hr h, ?_, Nat.le_refl _, Nat.zero_le _, ?_⟩
    · rw [Pth.splitA_no h]; simp
    · show 0 < (mk r).size + 1; omega
  · refine ⟨a, b, true, fun W => cut_at a b W hr h, ?_, by simp, by simp; omega, ?_⟩
    · rw [Pth.splitA_at h]; simp
    · show (mk b).size + 1 < (mk (a ++ 47 :: b)).size + 1
      rw [mk_len, mk_len]; simp; omega

set_option maxRecDepth 100000 in
set_option maxHeartbeats 3200000 in
theorem pth_names (s : List UInt8) (w : World) (hs : s.length ≤ 100000) :
    Calls Tryz.prog 45 #[.string (mk s)] w fun e w' => ∃ v, e = .returned (.tuple #[v, .int .i64 (if Pth.Right s then 0 else 13)]) ∧ Cells w' (NewIn w w') v (texts (if Pth.Right s then Pth.split s else [])) ∧ Below w.heap.size w w' := by
  obtain ⟨i0, hi, hz0, hz1, hz2⟩ := info_parts strInfo
  have HN := Lib.hid (pth_namer w)
  unfold mayF at HN
  generalize hE : (if Pth.Right s then (0 : Int) else 13) = E
  generalize hL : (if Pth.Right s then Pth.split s else []) = L
  have HE := Lib.hid hE
  have HL := Lib.hid hL
  clear hE hL
  go_enter Tryz.func45, Tryz.ntmps45
  go_wp2_with (go_at_call 59; refine HN.out.mono ?_; rintro e w1 ⟨rfl, e1⟩
               have h0 := Lib.hid (e1 ▸ NmAt.start w)
               clear e1)
  go_loopw [0, 5, 6] (fun o v b wr => ∃ (d : List (List UInt8)) (u : Value) (x : List UInt8) (m : Bool), o = .string (mk x) ∧ b = .bool m ∧ u = v ∧ Pth.split s = d ++ (if m then Pth.splitA [] x else []) ∧ Pth.Fit d ∧ NmAt w d d u wr ∧ x.length ≤ 100000) (fun o _ b _ => moreIn o b)
  case atStart => exact ⟨[], _, s, true, rfl, rfl, rfl, by simp [Pth.split], Pth.fit_nil, h0.out, hs⟩
  case round =>
    obtain ⟨d, v, x, m, rfl, rfl, rfl, hsp, hfit, hat, hx⟩ := hrel
    cases m
    · have hsd : Pth.split s = d := by rw [hsp]; simp
      have hR : Pth.Right s := (Pth.right_fit s).2 (hsd ▸ hfit)
      have E0 : Hid (E = 0) := Lib.hid (by rw [← HE.out, if_pos hR])
      have L0 : Hid (L = d) := Lib.hid (by rw [← HL.out, if_pos hR, hsd])
      have Hat := Lib.hid hat
      clear hat hsp hfit hR hsd
      generalize mk x = X at *
      go_wp2_with fail
      go_ret2
      exact ⟨v, by rw [E0.out]; rfl, by rw [L0.out]; exact Hat.out.cells, Hat.out.bel⟩
    · obtain ⟨t, r', m', hcut, hsa, htl, hrl, hmeas⟩ := cut_parts x hx
      have HC := Lib.hid hcut
      have hd6 : d.length ≤ 6 := hfit.2.1
      have HM := Lib.hid (fun (W : World) (h : NmAt w d d v W) => pth_may (d := d) t h.r1 h.r2 (by omega) hfit (by omega))
      have Hat := Lib.hid hat
      have Hmeas := Lib.hid hmeas
      clear hcut hat hmeas
      by_cases hn : Pth.Next d t
      · have hsp2 : Hid (Pth.split s = (d ++ [t]) ++ (if m' then Pth.splitA [] r' else [])) := Lib.hid (by rw [hsp, if_pos rfl, hsa]; simp)
        have hfit2 := Lib.hid (Pth.fit_next hfit hn)
        have Hr := Lib.hid (Nat.le_trans hrl hx)
        have Hn := Lib.hid hn
        rw [decide_eq_true hn] at HM
        have hlen : Hid ((texts d).length = d.length) := Lib.hid (texts_len d)
        clear hsp hfit hn htl hrl hsa hx
        generalize hx1 : mk t = x1 at *
        generalize mk x = X at *
        generalize hx2 : mk r' = x2 at *
        go_wp2_with fail
        refine (HC.out _).mono ?_
        rintro e w2 ⟨rfl, hb2⟩
        have h2 := Lib.hid (Hat.out.below hb2)
        clear hb2
        go_wp2_with fail
        refine (HM.out _ h2.out).mono ?_
        rintro e w3 ⟨rfl, hr3, hk3⟩
        have h3 := Lib.hid (h2.out.told (hr3 Hn.out).1 (hr3 Hn.out).2 hk3)
        have hown3 := h3.out.own
        have hz3 := h3.out.size
        clear hr3 hk3
        have hc1 : ∀ {w1 : World} j u, [Value.string x1][j]? = some u → (w1.alloc (.cells #[.string x1] 9)).cell? ((⟨w1.heap.size, 0, none⟩ : Addr).add j) = some u := by
          intro w1 j u hj
          match j, hj with
          | 0, hj => simp at hj; subst hj; simp [Addr.add]
        go_wp2_with (at_builtin; refine wpList_append_own _ rfl _ _ 45 rfl (w.heap.size + 2) 9 i0 (.string ⟨#[]⟩) 1 16 Tryz.underlying45 hi hz0 hz1 hz2 rfl (by decide) _ _ _ rfl (hown3.alloc _) ⟨w3.heap.size, 0, none⟩ 1 1 [.string x1] rfl rfl hc1 ?c2 ?c3 ?c4 ?c5 ?_)
        case c2 => first | rfl | (intro u hu; simp at hu; subst hu; rfl)
        case c3 => unfold maxLen; omega
        case c4 => omega
        case c5 => first | omega | (simp; omega)
        intro v' w4 hown' hgrow' _
        have hnew := nm_more h3.out (x := t) (v' := v') (by rw [hx1]; simpa using hown') hgrow'
        clear hown' hgrow' hown3
        go_wp2
        go_roundw
        case rel => exact ⟨d ++ [t], _, r', m', by rw [hx2], rfl, rfl, hsp2.out, hfit2.out, hnew, Hr.out⟩
        case measure => exact Hmeas.out
      · have hR : ¬ Pth.Right s := fun h => by
          have := (Pth.right_fit s).1 h
          rw [hsp, if_pos rfl, hsa] at this
          exact Pth.fit_not hn this
        have E0 : Hid (E = 13) := Lib.hid (by rw [← HE.out, if_neg hR])
        have L0 : Hid (L = []) := Lib.hid (by rw [← HL.out, if_neg hR])
        rw [decide_eq_false hn] at HM
        clear hsp hfit hn htl hrl hsa hx hR Hmeas hd6
        generalize mk t = x1 at *
        generalize mk x = X at *
        generalize mk r' = x2 at *
        go_wp2_with fail
        refine (HC.out _).mono ?_
        rintro e w2 ⟨rfl, hb2⟩
        have h2 := Lib.hid (Hat.out.below hb2)
        clear hb2
        go_wp2_with fail
        refine (HM.out _ h2.out).mono ?_
        rintro e w3 ⟨rfl, -, hk3⟩
        have hb3 : Hid (Below w.heap.size w w3) := Lib.hid (h2.out.bel.trans (hk3.below h2.out.bel.size (fun i hi => by omega)))
        clear hk3
        go_wp2_with fail
        go_ret2
        exact ⟨.slice none 0 0, by rw [E0.out]; rfl, by rw [L0.out]; exact Cells.none _ _, hb3.out⟩

set_option maxRecDepth 100000 in
theorem pth_check (s : List UInt8) (w : World) (hs : s.length ≤ 100000) :
    Calls Tryz.prog 29 #[.string (mk s)] w fun e w' => e = .returned (.int .i64 (if Pth.Right s then 0 else 13)) ∧ Below w.heap.size w w' := by
  have HN := Lib.hid (pth_names s w hs)
  generalize (if Pth.Right s then (0 : Int) else 13) = R at *
  generalize mk s = X at *
  go_enter Tryz.func29, Tryz.ntmps29
  go_wp2_with (go_at_call 45; refine HN.out.mono ?_; rintro e w1 ⟨v, rfl, -, hb⟩)
  go_ret
  exact ⟨rfl, hb⟩
end Go.Proofs.YtjnpgfndbdddnaaGreat
/- The package path as it landed answers as its contracts say. -/
set_option linter.unusedSimpArgs false
set_option linter.unusedVariables false
namespace Go.Proofs.YtjnpgfndbdddnaaGreat
open Go.RowKit

set_option maxRecDepth 100000 in
theorem path_ok : PathOk where
  check := pth_check
  names := pth_names
  covers := fun a b w _ _ => pth_covers a b w
  parent := pth_parent
end Go.Proofs.YtjnpgfndbdddnaaGreat
/- The landed filter: what is known tells the sizes at any prefix (the closure of sizer). -/
set_option linter.unusedSimpArgs false
set_option linter.unusedVariables false
namespace Go.Proofs.YtjnpgfndbdddnaaGreat
open Go.RowKit

def Tm.val (m : Tm.Fn) (q : List UInt8) : Value := match m q with | some v => v | none => .slice none 0 0
def strLen : Value → Nat
  | .string s => s.size
  | _ => 0

set_option maxRecDepth 100000 in
set_option maxHeartbeats 3200000 in
theorem tell_any {w : World} {F : Nat → Prop} {bm B n : Nat} {m : Tm.Fn} {L : List UInt8 → List Sz.Rg} (hm : TmAt w bm m n) (hB : w.cell? ⟨B, 0, none⟩ = some (.map (some bm))) (hBl : B < w.heap.size)
    (hv : ∀ q v, m q = some v → Rgs w F v (L q)) (hn : ∀ q, m q = none → (q = [] → L [] = []) ∧ (q ≠ [] → L q = L (Pth.parent q))) (p : List UInt8) (hp : p.length ≤ 100000) :
    Calls Tryz.prog 52 #[.string (mk p), .pointer (some ⟨B, 0, none⟩)] w fun e w' => ∃ v, e = .returned v ∧ Rgs w' F v (L p) ∧ Below w.heap.size w w' := by
  have LK : Hid (∀ (W : World), Below w.heap.size w W → ∀ q : List UInt8, q.length ≤ 100000 → (Instr.lookup 67 (.map (some bm)) (.string (mk q)) true).run Tryz.prog W = .ok (.tuple #[Tm.val m q, .bool (m q).isSome]) W) := Lib.hid (fun W hW q hq => (hm.below hW).look (by omega))
  have CB : Hid (∀ (W : World), Below w.heap.size w W → W.cell? ⟨B, 0, none⟩ = some (.map (some bm))) := Lib.hid (fun W hW => (hW.cell (p := ⟨B, 0, none⟩) hBl).trans hB)
  have HV := Lib.hid hv
  have HN := Lib.hid hn
  have PA := Lib.hid (fun (q : List UInt8) (hq : q.length ≤ 100000) (W : World) => path_ok.parent q W hq)
  have hlook := LK.out w (Below.refl _ _) p hp
  clear hm hv hn hBl
  obtain ⟨ps, hps⟩ : ∃ ps, ps = mk p := ⟨_, rfl⟩
  rw [← hps] at hlook ⊢
  have Hps := Lib.hid hps
  clear hps
  generalize hx : Tm.val m p = x at hlook
  generalize hy : (m p).isSome = y at hlook
  have HX := Lib.hid hx
  have HY := Lib.hid hy
  clear hx hy
  go_enter Tryz.func52, Tryz.ntmps52
  go_wp2_with fail
  go_loopw [0, 4, 5, 20] (fun pv l has _ wr => ∃ q : List UInt8, q.length ≤ 100000 ∧ pv = .string (mk q) ∧ l = Tm.val m q ∧ has = .bool (m q).isSome ∧ Hid (L q = L p) ∧ Below w.heap.size w wr) (fun pv _ _ _ _ => strLen pv)
  case atStart => exact ⟨p, hp, by rw [Hps.out], HX.out.symm, by rw [HY.out], Lib.hid rfl, Below.refl _ _⟩
  case round =>
    obtain ⟨q, hq, rfl, rfl, rfl, hL, hbel⟩ := hrel
    have Hbel := Lib.hid hbel
    clear hlook
    cases hmq : m q with
    | some v =>
      have hval : Tm.val m q = v := by unfold Tm.val; rw [hmq]
      have hfin : Hid (Rgs wr F v (L p)) := Lib.hid (by rw [← hL.out]; exact (HV.out q v hmq).below hbel)
      rw [hval]
      clear hval hmq hbel hB
      go_wp2_with fail
      go_ret
      exact ⟨_, rfl, hfin.out, Hbel.out⟩
    | none =>
      have hval : Tm.val m q = .slice none 0 0 := by unfold Tm.val; rw [hmq]
      rw [hval]
      have ea := str_nil q
      have ia := str_empty q
      by_cases h0 : q = []
      · have hfin : Hid (Rgs wr F (.slice none 0 0) (L p)) := Lib.hid (by rw [← hL.out, h0, (HN.out q hmq).1 h0]; exact Rws.none _ _ _)
        rw [decide_eq_true h0] at ea ia
        clear hval hmq hbel h0 hB
        generalize mk q = qs at *
        go_wp2_with fail
        go_ret
        exact ⟨_, rfl, hfin.out, Hbel.out⟩
      · have hL2 : Hid (L (Pth.parent q) = L p) := Lib.hid (by rw [← hL.out]; exact ((HN.out q hmq).2 h0).symm)
        have hsh := Pth.parent_short h0
        have hpl : (Pth.parent q).length ≤ 100000 := by omega
        have PQ := Lib.hid (PA.out q hq)
        have hms : Hid (strLen (.string (mk (Pth.parent q))) < strLen (.string (mk q))) := Lib.hid (by show (mk (Pth.parent q)).size < (mk q).size; rw [mk_len, mk_len]; exact hsh)
        rw [decide_eq_false h0] at ea ia
        have LK2 := Lib.hid (fun W hW => LK.out W hW (Pth.parent q) hpl)
        have Hpl : Hid ((Pth.parent q).length ≤ 100000) := Lib.hid hpl
        generalize hpq : Pth.parent q = pq at *
        clear hval hmq hbel h0 hsh hpq hpl hB
        obtain ⟨qs, hqs⟩ : ∃ qs, qs = mk q := ⟨_, rfl⟩
        rw [← hqs] at ea ia PQ hms ⊢
        clear hqs
        go_wp2_with fail
        refine (PQ.out _).mono ?_
        rintro e w1 ⟨rfl, hb1⟩
        have HB1 := Lib.hid (Hbel.out.trans (hb1.mono Hbel.out.size))
        have hB := CB.out _ HB1.out
        have hlook := LK2.out _ HB1.out
        clear hb1
        generalize hx : Tm.val m pq = x at hlook
        generalize hy : (m pq).isSome = y at hlook
        have HX := Lib.hid hx
        have HY := Lib.hid hy
        clear hx hy
        obtain ⟨qs2, hqs2⟩ : ∃ qs, qs = mk pq := ⟨_, rfl⟩
        rw [← hqs2] at hlook hms ⊢
        have HQ2 := Lib.hid hqs2
        clear hqs2
        go_wp2_with fail
        exact ⟨⟨pq, Hpl.out, by rw [HQ2.out], HX.out.symm, by rw [HY.out], hL2, HB1.out⟩, hms.out⟩
end Go.Proofs.YtjnpgfndbdddnaaGreat
