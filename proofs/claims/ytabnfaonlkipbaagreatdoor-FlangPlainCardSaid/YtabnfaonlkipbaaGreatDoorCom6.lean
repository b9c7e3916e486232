/- What the package path is to answer (PathOk); the document's own Covers. -/
import Derived.Test.YtabnfaonlkipbaaGreatDoorCom1
import Derived.Test.YtabnfaonlkipbaaGreatDoorCom5
import Derived.Test.YtabnfaonlkipbaaGreatDoorCom4
import Derived.Test.YtabnfaonlkipbaaGreatDoorCom2
import Derived.Test.YtabnfaonlkipbaaGreatDoorCom3
import Derived.Lib.AtoiAllCases
import Derived.Lib.ItoaNum
import Derived.Lib.CountLaws
import Derived.Lib.Split
import Derived.Lib.IndexBytes
import Derived.Lib.LaidTab
namespace Go.Proofs.YtabnfaonlkipbaaGreatDoor
open Go.RowKit

/-- What the package is to answer. -/
structure PathOk : Prop where
  check : ∀ (s : List UInt8) (w : World), s.length ≤ 100000 → Calls Tryz.prog 19 #[.string (mk s)] w fun e w' => e = .returned (.int .i64 (if Pth.Right s then 0 else 13)) ∧ Below w.heap.size w w'
  names : ∀ (s : List UInt8) (w : World), s.length ≤ 100000 → Calls Tryz.prog 38 #[.string (mk s)] w fun e w' => ∃ v, e = .returned (.tuple #[v, .int .i64 (if Pth.Right s then 0 else 13)]) ∧ Cells w' (NewIn w w') v (texts (if Pth.Right s then Pth.split s else [])) ∧ Below w.heap.size w w'
  parent : ∀ (a : List UInt8) (w : World), a.length ≤ 100000 → Calls Tryz.prog 48 #[.string (mk a)] w fun e w' => e = .returned (.string (mk (Pth.parent a))) ∧ Below w.heap.size w w'

set_option maxRecDepth 100000 in
set_option maxHeartbeats 1600000 in
theorem ref_covers1 (a b : List UInt8) (w : World) (ha : a.length ≤ 100000) : Calls Tryz.prog 52 #[.string (mk a), .string (mk b)] w fun e w' => e = .returned (.bool (decide (Pth.Covers a b))) ∧ w' = w := by
  have la : (mk a).size = a.length := mk_len a
  have lb : (mk b).size = b.length := mk_len b
  have ia : (mk a).toList.isEmpty = decide (a = []) := by rw [Lib.toList_data, mk_data]; cases a <;> rfl
  have ea : ((mk a).toList == []) = decide (a = []) := by rw [Lib.toList_data, mk_data]; cases a <;> rfl
  have eb : ((mk a).toList == (mk b).toList) = decide (a = b) := by
    rw [Lib.toList_data, Lib.toList_data, mk_data, mk_data]
    by_cases h : a = b
    · rw [h, decide_eq_true rfl]; exact beq_self_eq_true _
    · rw [decide_eq_false h, beq_eq_false_iff_ne]; exact h
  by_cases h1 : a = []
  · have hc : Hid (decide (Pth.Covers a b) = true) := Lib.hid (decide_eq_true (Or.inl h1))
    rw [decide_eq_true h1] at ia ea
    clear h1 eb
    generalize mk a = x at *
    generalize mk b = y at *
    go_enter Tryz.func52, Tryz.ntmps52
    go_wp2_with fail
    go_ret
    exact ⟨by rw [hc.out]; rfl, rfl⟩
  · rw [decide_eq_false h1] at ia ea
    by_cases h2 : a = b
    · have hc : Hid (decide (Pth.Covers a b) = true) := Lib.hid (decide_eq_true (Or.inr (Or.inl h2)))
      rw [decide_eq_true h2] at eb
      clear h1 h2
      generalize mk a = x at *
      generalize mk b = y at *
      go_enter Tryz.func52, Tryz.ntmps52
      go_wp2_with fail
      go_ret
      exact ⟨by rw [hc.out]; rfl, rfl⟩
    · rw [decide_eq_false h2] at eb
      have hc : ∀ P : Prop, (Pth.Covers a b ↔ P) ↔ ((a.length < b.length ∧ b.take a.length = a ∧ b[a.length]? = some 47) ↔ P) := fun P => by
        unfold Pth.Covers
        constructor
        · intro h; rw [← h]; exact ⟨fun k => Or.inr (Or.inr k), fun k => (k.resolve_left h1).resolve_left h2⟩
        · intro h; rw [← h]; exact ⟨fun k => (k.resolve_left h1).resolve_left h2, fun k => Or.inr (Or.inr k)⟩
      by_cases h3 : a.length < b.length
      · have g3 : decide ((mk a).size < (mk b).size) = true := by rw [la, lb]; exact decide_eq_true h3
        have g3i : ((mk a).size : Int) < ((mk b).size : Int) := by rw [la, lb]; omega
        have g3j : ((mk a).size : Int) ≤ ((mk b).size : Int) := by omega
        have e4 : (((mk b).extract 0 (mk a).size).toList == (mk a).toList) = decide (b.take a.length = a) := by
          rw [Lib.toList_data, Lib.toList_data, Lib.extract_data, mk_data, mk_data, la, List.drop_zero, Nat.sub_zero]
          by_cases h : b.take a.length = a
          · rw [h, decide_eq_true rfl]; exact beq_self_eq_true _
          · rw [decide_eq_false h, beq_eq_false_iff_ne]; exact h
        by_cases h4 : b.take a.length = a
        · rw [decide_eq_true h4] at e4
          obtain ⟨c, hcc, ic⟩ := idx (mk b) (mk a).size (by rw [la, lb]; exact h3)
          rw [mk_data, la] at hcc
          have hx : Hid (decide (Pth.Covers a b) = decide (c.toNat = 47)) := Lib.hid (by
            rw [decide_eq_decide]
            refine (hc _).2 ⟨fun k => ?_, fun k => ⟨h3, h4, ?_⟩⟩
            · have := k.2.2
              rw [hcc] at this
              injection this with this
              rw [this]; rfl
            · rw [hcc]
              congr 1
              apply UInt8.toNat_inj.1
              exact k)
          have hc7 : (((c.toNat : Int)) == 47) = decide (c.toNat = 47) := by
            by_cases h : c.toNat = 47
            · rw [h]; rfl
            · rw [decide_eq_false h, beq_eq_false_iff_ne]; omega
          clear h1 h2 h3 h4 hc hcc la lb
          generalize mk a = x at *
          generalize mk b = y at *
          cases hd : decide (c.toNat = 47)
          all_goals
            rw [hd] at hx hc7
            generalize c.toNat = cn at *
            go_enter Tryz.func52, Tryz.ntmps52
            go_wp2_with fail
            go_ret
            exact ⟨by rw [hx.out]; rfl, rfl⟩
        · rw [decide_eq_false h4] at e4
          have hx : Hid (decide (Pth.Covers a b) = false) := Lib.hid (decide_eq_false (fun k => h4 (((hc (Pth.Covers a b)).1 Iff.rfl).2 k).2.1))
          clear h1 h2 h3 h4 hc la lb
          generalize mk a = x at *
          generalize mk b = y at *
          go_enter Tryz.func52, Tryz.ntmps52
          go_wp2_with fail
          go_ret
          exact ⟨by rw [hx.out]; rfl, rfl⟩
      · have g3 : decide ((mk a).size < (mk b).size) = false := by rw [la, lb]; exact decide_eq_false h3
        have hx : Hid (decide (Pth.Covers a b) = false) := Lib.hid (decide_eq_false (fun k => h3 (((hc (Pth.Covers a b)).1 Iff.rfl).2 k).1))
        clear h1 h2 h3 hc la lb
        generalize mk a = x at *
        generalize mk b = y at *
        go_enter Tryz.func52, Tryz.ntmps52
        go_wp2_with fail
        go_ret
        exact ⟨by rw [hx.out]; rfl, rfl⟩
set_option maxRecDepth 100000 in
theorem ref_covers0 (a b : List UInt8) (w : World) (ha : a.length ≤ 100000) (_hb : b.length ≤ 100000) : Calls Tryz.prog 52 #[.string (mk a), .string (mk b)] w fun e w' => e = .returned (.bool (decide (Pth.Covers a b))) ∧ w' = w := ref_covers1 a b w ha
set_option maxRecDepth 100000 in
theorem ref_covers (a b : List UInt8) (w : World) (ha : a.length ≤ 100000) (hb : b.length ≤ 100000) : Calls Tryz.prog 52 #[.string (mk a), .string (mk b)] w fun e w' => e = .returned (.bool (decide (Pth.Covers a b))) ∧ Below w.heap.size w w' :=
  (ref_covers0 a b w ha hb).mono fun _ _ h => ⟨h.1, by rw [h.2]; exact Below.refl _ _⟩
end Go.Proofs.YtabnfaonlkipbaaGreatDoor
/- What the package filter is to answer to layer 9's laws and those above (FilterOk); clauses in memory. -/
namespace Go.Proofs.YtabnfaonlkipbaaGreatDoor
open Go.RowKit

def clV (c : Flt.Cl) : List Value := [.string (mk c.pre), .int .i64 c.lo, .int .i64 c.hi]
/-- Clauses in memory. -/
abbrev Cls (w : World) (F : Nat → Prop) (v : Value) (l : List Flt.Cl) : Prop := Rws 3 clV w F v l
/-- Clauses as a program can hold them. -/
def Flt.Bd (c : Flt.Cl) : Prop := c.pre.length ≤ 100000 ∧ Go.Proofs.YtabnfaonlkipbaaGreatDoor.Bd (Flt.rg c)
def fileV (p : List UInt8) (size : Int) (dead : Bool) : Value := .agg #[.string (mk p), .int .i64 size, .bool dead]

set_option maxRecDepth 100000 in
theorem cl_len (c : Flt.Cl) : (clV c).length = 3 := rfl
set_option maxRecDepth 100000 in
theorem cl_one (c : Flt.Cl) : ∀ u ∈ clV c, u.oneCell' = true := by
  intro u hu
  unfold clV at hu
  simp only [List.mem_cons, List.not_mem_nil, or_false] at hu
  rcases hu with rfl | rfl | rfl <;> rfl

/-- What Check answers for the clauses, one behind the other. -/
def Flt.first : List Flt.Cl → Int
  | [] => 0
  | c :: l => if c.pre ≠ [] ∧ ¬ Pth.Right c.pre then 13 else if Flt.Right c then Flt.first l else 2
def Flt.check (f : List Flt.Cl) : Int := if 8 < f.length then 4 else Flt.first f
/-- Does one clause match a file? -/
def Flt.hit (p : List UInt8) (size : Int) (dead : Bool) (c : Flt.Cl) : Bool := decide (Pth.Covers c.pre p) && (dead || decide (0 ≤ size ∧ size ≤ 200 ∧ c.lo ≤ size ∧ size ≤ c.hi))
def Flt.hits (f : List Flt.Cl) (p : List UInt8) (size : Int) (dead : Bool) : Bool := f.any (Flt.hit p size dead)
def Flt.whole : List Flt.Cl := [⟨[], 0, 200⟩]

set_option maxRecDepth 100000 in
theorem Flt.hits_iff (f : List Flt.Cl) (p : List UInt8) (size : Int) (dead : Bool) : Flt.hits f p size dead = true ↔ Flt.Match f p size dead := by
  unfold Flt.hits Flt.Match Flt.hit
  rw [List.any_eq_true]
  refine exists_congr fun c => and_congr_right fun _ => ?_
  rw [Bool.and_eq_true, Bool.or_eq_true, decide_eq_true_iff, decide_eq_true_iff]
set_option maxRecDepth 100000 in
theorem Flt.hits_same {f g : List Flt.Cl} {p : List UInt8} {size : Int} {dead : Bool} (h : Flt.Match f p size dead ↔ Flt.Match g p size dead) : Flt.hits f p size dead = Flt.hits g p size dead := by
  rw [Bool.eq_iff_iff, Flt.hits_iff, Flt.hits_iff]; exact h

set_option maxRecDepth 100000 in
theorem Flt.ins_len (out : List Flt.Tx) (p : Flt.Tx) : (Flt.ins out p).length ≤ out.length + 1 := by
  unfold Flt.ins
  split
  · omega
  · have e := congrArg List.length (List.takeWhile_append_dropWhile (p := fun q => decide (q < p)) (l := out))
    rw [List.length_append] at e
    rw [List.length_append, List.length_cons]
    omega
set_option maxRecDepth 100000 in
theorem Flt.prefixes_len (f : List Flt.Cl) : (Flt.prefixes f).length ≤ f.length := by
  have : ∀ (f : List Flt.Cl) (out : List Flt.Tx), (f.foldl (fun out c => Flt.ins out c.pre) out).length ≤ out.length + f.length := by
    intro f
    induction f with
    | nil => intro out; simp
    | cons c f ih =>
      intro out
      have h1 := ih (Flt.ins out c.pre)
      have h2 := Flt.ins_len out c.pre
      rw [List.foldl_cons, List.length_cons]
      omega
  have := this f []
  simpa [Flt.prefixes] using this
set_option maxRecDepth 100000 in
theorem Flt.piece_len (f : List Flt.Cl) (p : Flt.Tx) : (Flt.piece f p).length ≤ 202 := (two_bd 2 _ _).2
set_option maxRecDepth 100000 in
theorem Flt.flat_len {α β : Type} (h : α → List β) (k : Nat) : ∀ (l : List α), (∀ x ∈ l, (h x).length ≤ k) → (l.flatMap h).length ≤ l.length * k
  | [], _ => by simp
  | x :: l, hk => by
    have h1 := hk x (by simp)
    have h2 := Flt.flat_len h k l (fun y hy => hk y (List.mem_cons_of_mem _ hy))
    rw [List.flatMap_cons, List.length_append, List.length_cons, Nat.add_one_mul]
    omega
set_option maxRecDepth 100000 in
theorem Flt.norm_len (f : List Flt.Cl) : (Flt.norm f).length ≤ f.length * 202 := by
  have h1 := Flt.flat_len (fun p => Flt.clauses p (Flt.piece f p)) 202 (Flt.prefixes f) (fun p _ => by unfold Flt.clauses; rw [List.length_map]; exact Flt.piece_len f p)
  have h2 := Flt.prefixes_len f
  unfold Flt.norm
  exact Nat.le_trans h1 (Nat.mul_le_mul_right _ h2)
set_option maxRecDepth 100000 in
theorem Flt.right_bd {c : Flt.Cl} (h : Flt.Right c) : Go.Proofs.YtabnfaonlkipbaaGreatDoor.Bd (Flt.rg c) := by
  obtain ⟨-, h1, h2, h3⟩ := h
  unfold Go.Proofs.YtabnfaonlkipbaaGreatDoor.Bd Flt.rg
  simp only
  omega
set_option maxRecDepth 100000 in
theorem Flt.norm_pre {f : List Flt.Cl} {c : Flt.Cl} (h : c ∈ Flt.norm f) : ∃ d ∈ f, d.pre = c.pre := by
  have hp := Flt.norm_mem.1 h
  have hin : c.pre ∈ Flt.prefixes f := by
    refine Classical.byContradiction (fun hn => ?_)
    rw [Flt.piece_out hn] at hp
    cases hp
  exact (Flt.prefixes_mem f _).1 hin

structure FilterOk : Prop where
  check : ∀ {w : World} {F : Nat → Prop} {v : Value} {f : List Flt.Cl}, Cls w F v f → f.length ≤ 100000 → (∀ c ∈ f, Flt.Bd c) → Calls Tryz.prog 9 #[v] w fun e w' => e = .returned (.int .i64 (Flt.check f)) ∧ Below w.heap.size w w'
  norm : ∀ {w : World} {F : Nat → Prop} {v : Value} {f : List Flt.Cl}, Cls w F v f → f.length ≤ 100000 → (∀ c ∈ f, Flt.Right c) → (∀ c ∈ f, Flt.Bd c) → Calls Tryz.prog 28 #[v] w fun e w' => ∃ v', e = .returned v' ∧ Cls w' (NewIn w w') v' (Flt.norm f) ∧ Below w.heap.size w w'
set_option maxRecDepth 100000 in
theorem Cls.at {w : World} {F : Nat → Prop} {b o : Nat} {n cap : Nat} {l : List Flt.Cl} (h : Cls w F (.slice (some ⟨b, o, none⟩) n cap) l) {i : Nat} {x : Flt.Cl} (hx : l[i]? = some x) :
    w.cell? ⟨b, o + i * 3, none⟩ = some (.string (mk x.pre)) ∧ w.cell? ⟨b, o + i * 3 + 1, none⟩ = some (.int .i64 x.lo) ∧ w.cell? ⟨b, o + i * 3 + 2, none⟩ = some (.int .i64 x.hi) := by
  obtain ⟨A, c, e, -, hat⟩ := h
  injection e with e1 e2 e3
  obtain ⟨b', o', e, -, -, hc⟩ := hat (by obtain ⟨hl, _⟩ := List.getElem?_eq_some_iff.1 hx; omega)
  rw [e] at e1
  injection e1 with e1
  injection e1 with e1 e2
  subst e1 e2
  exact ⟨hc i x hx 0 _ rfl, hc i x hx 1 _ rfl, hc i x hx 2 _ rfl⟩
end Go.Proofs.YtabnfaonlkipbaaGreatDoor
/- What strings.Split, strings.Cut, strconv.Atoi and Itoa are for the texts of filters, as plain data; how a text is read clause by clause. No program is spoken of. -/
namespace Go.Proofs.YtabnfaonlkipbaaGreatDoor.Flg
open Flt (Tx Cl Right)

/-! ### A text is cut at a byte's first place -/
set_option maxRecDepth 100000 in
theorem byte_cases (x : UInt8) : ∀ s : Tx, (Lib.indexByte s x = -1 ∧ x ∉ s) ∨ ∃ a b, s = a ++ x :: b ∧ x ∉ a ∧ Lib.indexByte s x = (a.length : Int)
  | [] => Or.inl ⟨rfl, by simp⟩
  | c :: s => by
    by_cases hc : c = x
    · subst hc
      refine Or.inr ⟨[], s, rfl, by simp, ?_⟩
      show (if c == c then 0 else _) = (0 : Int)
      rw [if_pos (beq_self_eq_true c)]
    · have hb : (c == x) = false := by rw [beq_eq_false_iff_ne]; exact hc
      rcases byte_cases x s with ⟨h1, h2⟩ | ⟨a, b, rfl, h2, h3⟩
      · refine Or.inl ⟨?_, ?_⟩
        · show (if c == x then 0 else if Lib.indexByte s x == -1 then -1 else Lib.indexByte s x + 1) = _
          rw [hb, h1]; rfl
        · intro hm
          rcases List.mem_cons.1 hm with e | hm
          · exact hc e.symm
          · exact h2 hm
      · refine Or.inr ⟨c :: a, b, rfl, ?_, ?_⟩
        · intro hm
          rcases List.mem_cons.1 hm with e | hm
          · exact hc e.symm
          · exact h2 hm
        · show (if c == x then 0 else if Lib.indexByte (a ++ x :: b) x == -1 then -1 else Lib.indexByte (a ++ x :: b) x + 1) = _
          rw [hb, h3]
          have : (((a.length : Nat) : Int) == -1) = false := by rw [beq_eq_false_iff_ne]; omega
          rw [this]
          simp
set_option maxRecDepth 100000 in
theorem byte_no {x : UInt8} {s : Tx} (h : x ∉ s) : Lib.indexByte s x = -1 := by
  rcases byte_cases x s with ⟨h1, -⟩ | ⟨a, b, rfl, -, -⟩
  · exact h1
  · exact absurd (by simp) h
set_option maxRecDepth 100000 in
theorem part_one {x : UInt8} {a b c d : Tx} (ha : x ∉ a) (hc : x ∉ c) (h : a ++ x :: b = c ++ x :: d) : a = c ∧ b = d := by
  rcases List.append_eq_append_iff.1 h with ⟨e, e1, e2⟩ | ⟨e, e1, e2⟩
  · cases e with
    | nil => exact ⟨by simpa using e1.symm, by simpa using e2⟩
    | cons y e =>
      injection e2 with e2 e3
      exact absurd (by rw [e1, ← e2]; simp) hc
  · cases e with
    | nil => exact ⟨by simpa using e1, by simpa using e2.symm⟩
    | cons y e =>
      injection e2 with e2 e3
      exact absurd (by rw [e1, ← e2]; simp) ha
set_option maxRecDepth 100000 in
theorem byte_at {x : UInt8} {a b : Tx} (h : x ∉ a) : Lib.indexByte (a ++ x :: b) x = (a.length : Int) := by
  rcases byte_cases x (a ++ x :: b) with ⟨-, h2⟩ | ⟨c, d, e, h2, h3⟩
  · exact absurd (by simp) h2
  · rw [h3, (part_one h h2 e).1]

set_option maxRecDepth 100000 in
/-- strings.Split's parts between one byte. -/
theorem split_cut (c : UInt8) : ∀ (k : Nat) (s : Tx), s.length ≤ k → Lib.splitK [c] 0 (Lib.count s [c]) s = cut c s := by
  intro k
  induction k with
  | zero =>
    intro s hs
    have : s = [] := List.length_eq_zero_iff.1 (by omega)
    subst this
    have hi : Lib.index [] [c] = -1 := by rw [Lib.index_one]; rfl
    rw [Lib.count_miss hi]
    rfl
  | succ k ih =>
    intro s hs
    rcases byte_cases c s with ⟨h1, h2⟩ | ⟨a, b, rfl, h2, h3⟩
    · rw [Lib.count_miss (by rw [Lib.index_one]; exact h1), cut_none h2]
      rfl
    · have hi : Lib.index (a ++ c :: b) [c] = (a.length : Int) := by rw [Lib.index_one]; exact h3
      have hd : (a ++ c :: b).drop (a.length + [c].length) = b := by
        rw [List.length_singleton, List.drop_append, List.drop_eq_nil_of_le (by omega)]
        simp
      rw [Lib.count_hit (by simp) hi, hd, Nat.add_comm, cut_cons h2]
      unfold Lib.splitK
      have hm : (Lib.index (a ++ c :: b) [c] == -1) = false := by rw [hi, beq_eq_false_iff_ne]; omega
      rw [hm, hi]
      have e : ((a.length : Int)).toNat = a.length := by omega
      rw [e, hd, ih b (by rw [List.length_append, List.length_cons] at hs; omega)]
      simp

/-! ### Numbers -/
set_option maxRecDepth 100000 in
theorem dec_digits : ∀ n, Lib.decDigits n = digits n := by
  intro n
  induction n using Nat.strongRecOn with
  | _ n ih =>
    rw [Lib.decDigits, digits]
    by_cases h : n < 10
    · rw [dif_pos h, if_pos h]
    · rw [dif_neg h, if_neg h, ih (n / 10) (by omega)]
set_option maxRecDepth 100000 in
theorem itoa_digits (n : Nat) : Lib.itoa (n : Int) = digits n := by
  unfold Lib.itoa
  rw [if_neg (by omega), Int.toNat_natCast, dec_digits]
set_option maxRecDepth 100000 in
theorem parse_fold : ∀ (l : Tx) (acc : Nat), (∀ c ∈ l, 48 ≤ c.toNat ∧ c.toNat ≤ 57) → acc ≤ l.foldl (fun a c => a * 10 + (c.toNat - 48)) acc ∧ (l.foldl (fun a c => a * 10 + (c.toNat - 48)) acc < 9223372036854775808 → Lib.parseUint10 acc l = .ok (l.foldl (fun a c => a * 10 + (c.toNat - 48)) acc))
  | [], acc, _ => ⟨Nat.le_refl _, fun _ => rfl⟩
  | c :: l, acc, h => by
    obtain ⟨h1, h2⟩ := parse_fold l (acc * 10 + (c.toNat - 48)) (fun x hx => h x (List.mem_cons_of_mem _ hx))
    have hc := h c (List.mem_cons_self ..)
    rw [List.foldl_cons]
    refine ⟨by omega, fun hl => ?_⟩
    unfold Lib.parseUint10
    rw [if_pos hc, if_neg (by omega), if_neg (by omega)]
    exact h2 hl
set_option maxRecDepth 100000 in
theorem digits_ne (n : Nat) : digits n ≠ [] := by
  intro e
  have h := digits_val n
  rw [digits] at e
  split at e
  · cases e
  · simp at e
set_option maxRecDepth 100000 in
theorem atoi_digits {n : Nat} (h : n < 9223372036854775808) : Lib.atoiAll (digits n) = .ok (n : Int) := by
  have hc := digits_chars n
  have hf := (parse_fold (digits n) 0 hc).2
  have hv : (digits n).foldl (fun a c => a * 10 + (c.toNat - 48)) 0 = n := digits_val n
  rw [hv] at hf
  have hf := hf h
  have hne := digits_ne n
  generalize digits n = l at *
  cases l with
  | nil => exact absurd rfl hne
  | cons c r =>
    have h1 := hc c (List.mem_cons_self ..)
    rw [Lib.atoiAll_plain c r (by omega) (by omega)]
    have : Lib.parseMag (c :: r) = .ok n := by
      unfold Lib.parseMag
      rw [if_neg (by simp)]
      exact hf
    rw [this]
    unfold Lib.signless
    simp only
    rw [if_neg (by omega)]
/-- What a text is as a number that is written without zeros ahead. -/
def num (s : Tx) : Option Nat := match Lib.atoiAll s with
  | .ok v => if 0 ≤ v ∧ Lib.itoa v = s then some v.toNat else none
  | _ => none
set_option maxRecDepth 100000 in
theorem num_digits {n : Nat} (h : n < 9223372036854775808) : num (digits n) = some n := by
  unfold num
  rw [atoi_digits h]
  simp only
  rw [if_pos ⟨by omega, itoa_digits n⟩, Int.toNat_natCast]
set_option maxRecDepth 100000 in
theorem num_some {s : Tx} {n : Nat} (h : num s = some n) : s = digits n ∧ n < 9223372036854775808 := by
  unfold num at h
  cases ha : Lib.atoiAll s with
  | ok v =>
    rw [ha] at h
    simp only at h
    by_cases hv : 0 ≤ v ∧ Lib.itoa v = s
    · rw [if_pos hv] at h
      have e : v.toNat = n := by simpa using h
      have hb := (Lib.atoiAll_bounds ha).2
      obtain ⟨m, rfl⟩ : ∃ m : Nat, v = (m : Int) := ⟨v.toNat, by omega⟩
      rw [Int.toNat_natCast] at e
      subst e
      exact ⟨by rw [← hv.2, itoa_digits], by omega⟩
    · rw [if_neg hv] at h; cases h
  | «syntax» => rw [ha] at h; cases h
  | range => rw [ha] at h; cases h
set_option maxRecDepth 100000 in
theorem number_num {s : Tx} : number s = match num s with | some n => if n ≤ 200 then (n : Int) else -1 | none => -1 := by
  cases hn : num s with
  | none =>
    refine number_none (fun n h e => ?_)
    rw [← e, num_digits (by omega)] at hn
    cases hn
  | some n =>
    obtain ⟨rfl, hl⟩ := num_some hn
    simp only
    by_cases h : n ≤ 200
    · rw [if_pos h, number_digits h]
    · rw [if_neg h]
      exact number_none (fun m hm e => h (by have := digits_inj e; omega))
set_option maxRecDepth 100000 in
theorem num_not {s : Tx} {b : UInt8} (hb : ¬ (48 ≤ b.toNat ∧ b.toNat ≤ 57)) (h : b ∈ s) : num s = none := by
  cases hn : num s with
  | none => rfl
  | some n =>
    obtain ⟨rfl, -⟩ := num_some hn
    exact absurd h (digits_not n hb)
set_option maxRecDepth 100000 in
theorem num_nil : num [] = none := rfl

/-! ### A clause as the landed code reads it -/
/-- What stands ahead of the byte's first place, and behind it. -/
def ahead (c : UInt8) (s : Tx) : Tx := s.takeWhile fun x => x != c
def behind (c : UInt8) (s : Tx) : Tx := (s.dropWhile fun x => x != c).drop 1
set_option maxRecDepth 100000 in
theorem ahead_at {c : UInt8} {a b : Tx} (h : c ∉ a) : ahead c (a ++ c :: b) = a ∧ behind c (a ++ c :: b) = b := by
  have ha : ∀ x ∈ a, (x != c) = true := fun x hx => bne_iff_ne.2 (fun e => h (e ▸ hx))
  have hc : ¬ (c != c) = true := by simp
  unfold ahead behind
  rw [List.takeWhile_append_of_pos ha, List.dropWhile_append_of_pos ha, List.takeWhile_cons, if_neg hc, List.dropWhile_cons, if_neg hc]
  simp
set_option maxRecDepth 100000 in
theorem ahead_no {c : UInt8} {s : Tx} (h : c ∉ s) : ahead c s = s ∧ behind c s = [] := by
  have ha : ∀ x ∈ s, (x != c) = true := fun x hx => bne_iff_ne.2 (fun e => h (e ▸ hx))
  unfold ahead behind
  constructor
  · have := List.takeWhile_append_of_pos (l₂ := []) ha
    simpa using this
  · have := List.dropWhile_append_of_pos (l₂ := []) ha
    rw [List.append_nil] at this
    rw [this]
    rfl
/-- The ends of a range. -/
def ends (b : Tx) : Option (Nat × Nat) := match num (ahead 45 b), num (behind 45 b) with
  | some x, some y => some (x, y)
  | _, _ => none
def readL (s : Tx) : Option Cl :=
  if 58 ∈ s then match ends (behind 58 s) with
    | some (x, y) => if ahead 58 s = [] then none else some ⟨unstar (ahead 58 s), (x : Int), (y : Int)⟩
    | none => none
  else if s = [] then none else some ⟨unstar s, 0, 200⟩

set_option maxRecDepth 100000 in
theorem ends_not {b : Tx} {c : UInt8} (hc : ¬ (48 ≤ c.toNat ∧ c.toNat ≤ 57)) (h45 : c ≠ 45) (h : c ∈ b) : ends b = none := by
  rcases byte_cases 45 b with ⟨-, h2⟩ | ⟨x, y, rfl, h2, -⟩
  · unfold ends
    rw [(ahead_no h2).1, num_not hc h]
  · unfold ends
    rw [(ahead_at h2).1, (ahead_at h2).2]
    rcases List.mem_append.1 h with h | h
    · rw [num_not hc h]
    · rcases List.mem_cons.1 h with h | h
      · exact absurd h h45
      · rw [num_not hc h]
        cases num x <;> rfl
set_option maxRecDepth 100000 in
theorem cut_ne (c : UInt8) (s : Tx) : cut c s ≠ [] := splitC_ne c s []
set_option maxRecDepth 100000 in
theorem cut_two {c : UInt8} {s : Tx} (h : c ∈ s) : ∃ a b l, cut c s = a :: b :: l := by
  rcases byte_cases c s with ⟨-, h2⟩ | ⟨a, b, rfl, h2, -⟩
  · exact absurd h h2
  · rw [cut_cons h2]
    cases hb : cut c b with
    | nil => exact absurd hb (cut_ne c b)
    | cons x l => exact ⟨a, x, l, rfl⟩

set_option maxRecDepth 100000 in
/-- The clause that may be: the same, whichever way it is read. -/
theorem readL_clause (s : Tx) : clause s = (readL s).bind fun c => if Right c then some c else none := by
  rcases byte_cases 58 s with ⟨-, h2⟩ | ⟨a, b, rfl, h2, -⟩
  · have e : readL s = read s := by
      unfold readL read
      rw [if_neg h2, cut_none h2]
    unfold clause
    rw [e]
    cases read s <;> rfl
  · have h58 : (58 : UInt8) ∈ a ++ 58 :: b := by simp
    unfold clause read readL
    rw [if_pos h58, (ahead_at h2).1, (ahead_at h2).2, cut_cons h2]
    by_cases hb : (58 : UInt8) ∈ b
    · obtain ⟨x, y, l, e⟩ := cut_two hb
      rw [e, ends_not (by decide) (by decide) hb]
      rfl
    · rw [cut_none hb]
      simp only
      rcases byte_cases 45 b with ⟨-, h4⟩ | ⟨x, y, rfl, h4, -⟩
      · have : ends b = none := by
          unfold ends
          rw [(ahead_no h4).2, num_nil]
          cases num (ahead 45 b) <;> rfl
        rw [this, cut_none h4]
        by_cases ha : a = []
        · rw [if_pos ha]; rfl
        · rw [if_neg ha]; rfl
      · unfold ends
        rw [(ahead_at h4).1, (ahead_at h4).2, cut_cons h4]
        by_cases hy : (45 : UInt8) ∈ y
        · obtain ⟨p, q, l, e⟩ := cut_two hy
          rw [e, num_not (by decide) hy]
          by_cases ha : a = []
          · rw [if_pos ha]; cases num x <;> rfl
          · rw [if_neg ha]; cases num x <;> rfl
        · rw [cut_none hy]
          by_cases ha : a = []
          · rw [if_pos ha]
            cases num x <;> cases num y <;> simp [ha]
          · rw [if_neg ha]
            simp only
            rw [number_num, number_num]
            cases num x with
            | none =>
              simp only [Option.bind_none]
              rw [if_neg]
              intro h
              have := h.2.1
              simp at this
            | some n =>
              cases num y with
              | none =>
                simp only [Option.bind_none]
                rw [if_neg]
                intro h
                have := h.2
                simp only at this
                split at this <;> omega
              | some m =>
                simp only [if_neg ha, Option.bind_some]
                by_cases hn : n ≤ 200
                · by_cases hm : m ≤ 200
                  · rw [if_pos hn, if_pos hm]
                  · rw [if_pos hn, if_neg hm, if_neg (fun h => by have := h.2; simp only at this; omega), if_neg (fun h => by have := h.2; simp only at this; omega)]
                · rw [if_neg hn, if_neg (fun h => by have := h.2; simp only at this; omega), if_neg (fun h => by have := h.2; simp only at this; omega)]

/-- The clauses up to the first text that is none. -/
def good : List Tx → List Cl
  | [] => []
  | a :: l => match readL a with
    | some c => c :: good l
    | none => []
set_option maxRecDepth 100000 in
theorem good_some {a : Tx} {c : Cl} (h : readL a = some c) (l : List Tx) : good (a :: l) = c :: good l := by
  show (match readL a with | some c => c :: good l | none => []) = _
  rw [h]
set_option maxRecDepth 100000 in
theorem good_none {a : Tx} (h : readL a = none) (l : List Tx) : good (a :: l) = [] := by
  show (match readL a with | some c => c :: good l | none => []) = _
  rw [h]
set_option maxRecDepth 100000 in
theorem good_len : ∀ l, (good l).length ≤ l.length
  | [] => Nat.le_refl _
  | a :: l => by
    cases h : readL a with
    | none => rw [good_none h]; simp
    | some c => rw [good_some h]; have := good_len l; simp; omega
set_option maxRecDepth 100000 in
theorem good_app : ∀ (l m : List Tx), (good l).length = l.length → good (l ++ m) = good l ++ good m
  | [], _, _ => rfl
  | x :: l, m, h => by
    cases hx : readL x with
    | none => rw [good_none hx] at h; simp at h
    | some c =>
      rw [good_some hx] at h
      rw [List.cons_append, good_some hx, good_some hx, good_app l m (by simpa using h)]
      rfl
set_option maxRecDepth 100000 in
theorem good_one (a : Tx) : good [a] = match readL a with | some c => [c] | none => [] := by
  cases h : readL a with
  | none => rw [good_none h]
  | some c => rw [good_some h]; rfl
set_option maxRecDepth 100000 in
theorem good_take {l : List Tx} {n : Nat} {a : Tx} (ha : l[n]? = some a) (h : (good (l.take n)).length = n) : good (l.take (n + 1)) = good (l.take n) ++ (match readL a with | some c => [c] | none => []) := by
  obtain ⟨hl, he⟩ := List.getElem?_eq_some_iff.1 ha
  rw [List.take_succ_eq_append_getElem hl, he, good_app _ _ (by rw [h, List.length_take]; omega), good_one]
set_option maxRecDepth 100000 in
theorem good_stop {l : List Tx} {n : Nat} {a : Tx} (ha : l[n]? = some a) (h : (good (l.take n)).length = n) (hr : readL a = none) : good l = good (l.take n) := by
  have e : l = l.take n ++ a :: l.drop (n + 1) := by
    obtain ⟨hl, he⟩ := List.getElem?_eq_some_iff.1 ha
    rw [← he, List.getElem_cons_drop, List.take_append_drop]
  have hl : n < l.length := (List.getElem?_eq_some_iff.1 ha).1
  have := good_app (l.take n) (a :: l.drop (n + 1)) (by rw [h, List.length_take]; omega)
  rw [← e, good_none hr, List.append_nil] at this
  exact this
set_option maxRecDepth 100000 in
/-- All texts are clauses that may be. -/
theorem good_clauses : ∀ l : List Tx, clauses l = if (good l).length = l.length ∧ ∀ c ∈ good l, Right c then some (good l) else none
  | [] => by rw [if_pos ⟨rfl, fun c hc => by cases hc⟩]; rfl
  | a :: l => by
    have e0 : clauses (a :: l) = match clause a, clauses l with
      | some c, some f => some (c :: f)
      | _, _ => none := rfl
    rw [e0, readL_clause, good_clauses l]
    clear e0
    cases ha : readL a with
    | none =>
      rw [good_none ha]
      show none = _
      rw [if_neg (fun h => by simp at h)]
    | some c =>
      rw [good_some ha]
      simp only [Option.bind_some]
      by_cases hc : Right c
      · rw [if_pos hc]
        by_cases h : (good l).length = l.length ∧ ∀ c ∈ good l, Right c
        · rw [if_pos h, if_pos ⟨by simp [h.1], fun x hx => by
            rcases List.mem_cons.1 hx with rfl | hx
            · exact hc
            · exact h.2 x hx⟩]
        · rw [if_neg h, if_neg (fun k => h ⟨by simpa using k.1, fun x hx => k.2 x (List.mem_cons_of_mem _ hx)⟩)]
      · rw [if_neg hc]
        show none = _
        rw [if_neg (fun k => hc (k.2 c (List.mem_cons_self ..)))]
set_option maxRecDepth 100000 in
theorem first_zero : ∀ f : List Cl, Flt.first f = 0 ↔ ∀ c ∈ f, Right c
  | [] => ⟨fun _ c hc => (by cases hc), fun _ => rfl⟩
  | c :: f => by
    unfold Flt.first
    by_cases h1 : c.pre ≠ [] ∧ ¬ Pth.Right c.pre
    · rw [if_pos h1]
      refine ⟨fun h => by simp at h, fun h => ?_⟩
      have := (h c (List.mem_cons_self ..)).1
      exact absurd this (fun k => k.elim h1.1 h1.2)
    · rw [if_neg h1]
      by_cases h2 : Right c
      · rw [if_pos h2, first_zero f]
        exact ⟨fun h x hx => by
          rcases List.mem_cons.1 hx with rfl | hx
          · exact h2
          · exact h x hx, fun h x hx => h x (List.mem_cons_of_mem _ hx)⟩
      · rw [if_neg h2]
        exact ⟨fun h => by simp at h, fun h => absurd (h c (List.mem_cons_self ..)) h2⟩
set_option maxRecDepth 100000 in
theorem check_zero (f : List Cl) : Flt.check f = 0 ↔ f.length ≤ 8 ∧ ∀ c ∈ f, Right c := by
  unfold Flt.check
  by_cases h : 8 < f.length
  · rw [if_pos h]
    exact ⟨fun k => by simp at k, fun k => by omega⟩
  · rw [if_neg h, first_zero]
    exact ⟨fun k => ⟨by omega, k⟩, fun k => k.2⟩
set_option maxRecDepth 100000 in
/-- What Parse comes to. -/
theorem parse_good {s : Tx} (hs : s ≠ [33]) : parse s = if (good (cut 44 s)).length = (cut 44 s).length ∧ Flt.check (good (cut 44 s)) = 0 then some (good (cut 44 s)) else none := by
  unfold parse
  rw [if_neg hs, good_clauses]
  by_cases h : (good (cut 44 s)).length = (cut 44 s).length ∧ Flt.check (good (cut 44 s)) = 0
  · rw [if_pos h]
    have hc := (check_zero _).1 h.2
    rw [if_pos ⟨h.1, hc.2⟩]
    exact if_pos hc.1
  · rw [if_neg h]
    by_cases h1 : (good (cut 44 s)).length = (cut 44 s).length ∧ ∀ c ∈ good (cut 44 s), Right c
    · rw [if_pos h1]
      exact if_neg (fun h8 => h ⟨h1.1, (check_zero _).2 ⟨h8, h1.2⟩⟩)
    · rw [if_neg h1]
set_option maxRecDepth 100000 in
theorem cut_small (c : UInt8) : ∀ (s cur : Tx), (∀ a ∈ splitC c cur s, a.length ≤ cur.length + s.length) ∧ (splitC c cur s).length ≤ s.length + 1
  | [], cur => ⟨fun a ha => by
      have : a = cur := by simpa [splitC] using ha
      rw [this]; simp, by simp [splitC]⟩
  | x :: s, cur => by
    unfold splitC
    by_cases h : x = c
    · rw [if_pos h]
      obtain ⟨h1, h2⟩ := cut_small c s []
      refine ⟨fun a ha => ?_, by simp; omega⟩
      rcases List.mem_cons.1 ha with rfl | ha
      · simp
      · have := h1 a ha; simp at this ⊢; omega
    · rw [if_neg h]
      obtain ⟨h1, h2⟩ := cut_small c s (cur ++ [x])
      refine ⟨fun a ha => ?_, by simp; omega⟩
      have := h1 a ha
      simp at this ⊢; omega
set_option maxRecDepth 100000 in
theorem ahead_len (c : UInt8) (s : Tx) : (ahead c s).length ≤ s.length := (List.takeWhile_sublist _).length_le
set_option maxRecDepth 100000 in
theorem readL_bd {s : Tx} (hs : s.length ≤ 100000) {c : Cl} (h : readL s = some c) : Flt.Bd c := by
  have hu : ∀ p : Tx, p.length ≤ 100000 → (unstar p).length ≤ 100000 := by
    intro p hp
    unfold unstar
    split
    · simp
    · exact hp
  have ha := ahead_len 58 s
  unfold readL at h
  by_cases h58 : (58 : UInt8) ∈ s
  · rw [if_pos h58] at h
    unfold ends at h
    cases hx : num (ahead 45 (behind 58 s)) with
    | none => rw [hx] at h; cases h
    | some x =>
      cases hy : num (behind 45 (behind 58 s)) with
      | none => rw [hx, hy] at h; cases h
      | some y =>
        rw [hx, hy] at h
        simp only at h
        by_cases he : ahead 58 s = []
        · rw [if_pos he] at h; cases h
        · rw [if_neg he] at h
          injection h with h
          subst h
          have h1 := (num_some hx).2
          have h2 := (num_some hy).2
          exact ⟨hu _ (by omega), by unfold Go.Proofs.YtabnfaonlkipbaaGreatDoor.Bd Flt.rg; simp only; omega⟩
  · rw [if_neg h58] at h
    by_cases he : s = []
    · rw [if_pos he] at h; cases h
    · rw [if_neg he] at h
      injection h with h
      subst h
      exact ⟨hu _ hs, by unfold Go.Proofs.YtabnfaonlkipbaaGreatDoor.Bd Flt.rg; simp only; omega⟩
end Go.Proofs.YtabnfaonlkipbaaGreatDoor.Flg
/- What the package flang is to answer to layer 11's laws and those above (FlangOk); the library's variables that it reads (Tabs). -/
namespace Go.Proofs.YtabnfaonlkipbaaGreatDoor
open Go.RowKit

/-- What strconv and strings read: their variables as the library lays them. -/
structure Flg.Tabs (w : World) : Prop where
  top : ∃ m, w.cell? ⟨0, 0, none⟩ = some (.int .i64 m)
  pow : Lib.TabIs Tryz.prog w "internal/strconv.uint64pow10" .u64 Lib.pow10Tab
  bad : ∃ tp p, w.var? Tryz.prog "strconv.ErrSyntax" = some #[.iface tp p]
  out : ∃ tp p, w.var? Tryz.prog "strconv.ErrRange" = some #[.iface tp p]
set_option maxRecDepth 100000 in
theorem flg_var {w w' : World} {g : Nat} {n : String} {cs : Array Value} (hg : Tryz.prog.globalNamed n = some g) (h : w.var? Tryz.prog n = some cs) (hb : Below w.heap.size w w') : w'.var? Tryz.prog n = some cs := by
  unfold World.var? at h ⊢
  rw [hg] at h ⊢
  simp only [Option.bind_some] at h ⊢
  have hlt : g < w.heap.size := by
    rcases Nat.lt_or_ge g w.heap.size with h' | h'
    · exact h'
    · rw [Array.getElem?_eq_none h'] at h; cases h
  rw [hb.block g hlt]
  exact h
set_option maxRecDepth 100000 in
theorem Flg.Tabs.below {w w' : World} (h : Flg.Tabs w) (hb : Below w.heap.size w w') : Flg.Tabs w' where
  top := by
    obtain ⟨m, hm⟩ := h.top
    have hlt : 0 < w.heap.size := by
      rcases Nat.lt_or_ge 0 w.heap.size with h' | h'
      · exact h'
      · simp [World.cell?, Array.getElem?_eq_none h'] at hm
    exact ⟨m, (hb.cell (p := ⟨0, 0, none⟩) hlt).trans hm⟩
  pow := flg_var (g := 1) (by kernel_rfl) h.pow hb
  bad := by
    obtain ⟨tp, p, hv⟩ := h.bad
    exact ⟨tp, p, flg_var (g := 4) (by kernel_rfl) hv hb⟩
  out := by
    obtain ⟨tp, p, hv⟩ := h.out
    exact ⟨tp, p, flg_var (g := 5) (by kernel_rfl) hv hb⟩

namespace Flg
open Flt (Tx Cl)
def printT (f : List Cl) : Tx := if Flt.check f = 0 then text f else []
def parseE (s : Tx) : Int := if 512 < s.length then 4 else if (parse s).isSome then 0 else 14
def parseF (s : Tx) : List Cl := if 512 < s.length then [] else (parse s).getD []
def plainT (s : Tx) : Tx := if parseE s = 0 then (if (Flt.norm (parseF s)).length ≤ 8 then text (Flt.norm (parseF s)) else text (parseF s)) else []
set_option maxRecDepth 100000 in
theorem parseE_is (s : Tx) : parseE s = 0 ∨ parseE s = 4 ∨ parseE s = 14 := by
  unfold parseE
  split
  · exact Or.inr (Or.inl rfl)
  · split
    · exact Or.inl rfl
    · exact Or.inr (Or.inr rfl)
set_option maxRecDepth 100000 in
theorem parseF_right (s : Tx) : (∀ c ∈ parseF s, Flt.Right c) ∧ (parseF s).length ≤ 8 := by
  unfold parseF
  split
  · exact ⟨fun c hc => (by cases hc), by simp⟩
  · cases h : parse s with
    | none => exact ⟨fun c hc => (by cases hc), by simp⟩
    | some f => exact parse_right h
end Flg

structure FlangOk : Prop where
  print : ∀ {w : World} {F : Nat → Prop} {v : Value} {f : List Flt.Cl}, Flg.Tabs w → Cls w F v f → f.length ≤ 100000 → (∀ c ∈ f, Flt.Bd c) → Calls Tryz.prog 8 #[v] w fun e w' => e = .returned (.tuple #[.string (mk (Flg.printT f)), .int .i64 (Flt.check f)]) ∧ Below w.heap.size w w'
  parse : ∀ {w : World} (s : List UInt8), Flg.Tabs w → s.length ≤ 9223372036854775807 → Calls Tryz.prog 10 #[.string (mk s)] w fun e w' => ∃ v', e = .returned (.tuple #[v', .int .i64 (Flg.parseE s)]) ∧ Cls w' (NewIn w w') v' (Flg.parseF s) ∧ Below w.heap.size w w'
  plain : ∀ {w : World} (s : List UInt8), Flg.Tabs w → s.length ≤ 9223372036854775807 → Calls Tryz.prog 14 #[.string (mk s)] w fun e w' => e = .returned (.tuple #[.string (mk (Flg.plainT s)), .int .i64 (Flg.parseE s)]) ∧ Below w.heap.size w w'
end Go.Proofs.YtabnfaonlkipbaaGreatDoor
