/- Two slices of texts: whether they are one list (the reference's Texts). -/
import Derived.Test.YtjnpgfndbdddnaaGreatCom4
import Derived.Test.YtjnpgfndbdddnaaGreatCom1
import Derived.Test.YtjnpgfndbdddnaaGreatCom3
import Derived.Test.YtjnpgfndbdddnaaGreatCom2
import Derived.Deep.Slices
import Derived.OwnWalk
import Derived.OrdersHeld
import Derived.Tactics
import Derived.Deep.RegionHeld
namespace Go.Proofs.YtjnpgfndbdddnaaGreat
open Go.RowKit

set_option maxRecDepth 100000 in
theorem Cells.below {w w' : World} {F : Nat → Prop} {v : Value} {us : List Value} (h : Cells w F v us) (k : Below w.heap.size w w') : Cells w' F v us := h.kept (Kept.ofBelow k (fun _ => False)) (fun _ _ h => h)

set_option maxRecDepth 100000 in
theorem below_drews' (w : World) (n : Nat) : Below w.heap.size w (w.drewN n) := ⟨rfl, rfl, rfl, Nat.le_refl _, fun _ _ => rfl⟩

set_option maxRecDepth 100000 in
theorem strInfo : (Tryz.prog.info? 9).map (fun i => (i.zero, i.size, i.bytes)) = some (some (.string ⟨#[]⟩), 1, 16) := by kernel_rfl

set_option maxRecDepth 100000 in
theorem own_below {w w' : World} {base t size n : Nat} {v : Value} {xs : List Value} (h : w.ownsRow base t size v n xs) (k : Below w.heap.size w w') : w'.ownsRow base t size v n xs :=
  h.kept (Kept.ofBelow k (fun i => i = w.heap.size)).grown (Or.inr (fun e => by have := (h.lt _ e).2; omega))

/-- The call's own slice holds these texts. -/
def TextsOwn (w : World) (out : List (List UInt8)) (v : Value) (wr : World) : Prop := wr.ownsRow w.heap.size 9 1 v out.length (texts out) ∧ Below w.heap.size w wr

set_option maxRecDepth 100000 in
theorem texts_start (w : World) : TextsOwn w [] (.slice none 0 0) w := ⟨World.ownsRow_nil _ _ _ _, Below.refl _ _⟩

set_option maxRecDepth 100000 in
theorem TextsOwn.below {w w1 w2 : World} {out : List (List UInt8)} {v : Value} (h : TextsOwn w out v w1) (k : Below w1.heap.size w1 w2) : TextsOwn w out v w2 := ⟨own_below h.1 k, h.2.trans (k.mono h.2.size)⟩

set_option maxRecDepth 100000 in
theorem texts_more {w wr w2 : World} {out : List (List UInt8)} {v v' : Value} {o : Obj} {x : List UInt8} (h : TextsOwn w out v wr) (hown : w2.ownsRow w.heap.size 9 1 v' (out.length + 1) (texts out ++ [.string (mk x)])) (hg : (wr.alloc o).grownBy w2 v.ownBlock) :
    TextsOwn w (out ++ [x]) v' w2 := by
  obtain ⟨h1, h2⟩ := h
  refine ⟨?_, (h2.alloc h2.size o).grown hg (by have := h2.size; simp; omega) (fun k hk => (h1.lt k hk).1)⟩
  rw [List.length_append]
  simpa [texts] using hown

set_option maxRecDepth 100000 in
theorem TextsOwn.cells {w w' : World} {out : List (List UInt8)} {v : Value} (h : TextsOwn w out v w') : Cells w' (NewIn w w') v (texts out) := Cells.ofOwn h.1 (fun _ _ h1 h2 => ⟨h1, h2⟩)
end Go.Proofs.YtjnpgfndbdddnaaGreat
/- What the package path is to answer (PathOk); the document's own Covers. -/
namespace Go.Proofs.YtjnpgfndbdddnaaGreat
open Go.RowKit

/-- What the package is to answer. -/
structure PathOk : Prop where
  check : ∀ (s : List UInt8) (w : World), s.length ≤ 100000 → Calls Tryz.prog 29 #[.string (mk s)] w fun e w' => e = .returned (.int .i64 (if Pth.Right s then 0 else 13)) ∧ Below w.heap.size w w'
  names : ∀ (s : List UInt8) (w : World), s.length ≤ 100000 → Calls Tryz.prog 45 #[.string (mk s)] w fun e w' => ∃ v, e = .returned (.tuple #[v, .int .i64 (if Pth.Right s then 0 else 13)]) ∧ Cells w' (NewIn w w') v (texts (if Pth.Right s then Pth.split s else [])) ∧ Below w.heap.size w w'
  covers : ∀ (a b : List UInt8) (w : World), a.length ≤ 100000 → b.length ≤ 100000 → Calls Tryz.prog 32 #[.string (mk a), .string (mk b)] w fun e w' => e = .returned (.bool (decide (Pth.Covers a b))) ∧ Below w.heap.size w w'
  parent : ∀ (a : List UInt8) (w : World), a.length ≤ 100000 → Calls Tryz.prog 39 #[.string (mk a)] w fun e w' => e = .returned (.string (mk (Pth.parent a))) ∧ Below w.heap.size w w'

set_option maxRecDepth 100000 in
set_option maxHeartbeats 1600000 in
theorem ref_covers0 (a b : List UInt8) (w : World) (ha : a.length ≤ 100000) (_hb : b.length ≤ 100000) : Calls Tryz.prog 34 #[.string (mk a), .string (mk b)] w fun e w' => e = .returned (.bool (decide (Pth.Covers a b))) ∧ w' = w := by
  have la : (mk a).size = a.length := mk_len a
  have lb : (mk b).size = b.length := mk_len b
  have ia : (mk a).toList.isEmpty = decide (a = []) := by rw [Lib.toList_data, mk_data]; cases a <;> rfl
  have ea : ((mk a).toList == []) = decide (a = []) := by rw [Lib.toList_data, mk_data]; cases a <;> rfl
  have eb : ((mk a).toList == (mk b).toList) = decide (a = b) := by
    rw [Lib.toList_data, Lib.toList_data, mk_data, mk_data]
    by_cases h : a = b
    · rw [h, decide_eq_true rfl]; exact beq_self_eq_true _
    · rw [decide_eq_false h, beq_eq_false_iff_ne]; exact h
  by_cases h1 : a = []
  · have hc : Hid (decide (Pth.Covers a b) = true) := Lib.hid (decide_eq_true (Or.inl h1))
    rw [decide_eq_true h1] at ia ea
    clear h1 eb
    generalize mk a = x at *
    generalize mk b = y at *
    go_enter Tryz.func34, Tryz.ntmps34
    go_wp2_with fail
    go_ret
    exact ⟨by rw [hc.out]; rfl, rfl⟩
  · rw [decide_eq_false h1] at ia ea
    by_cases h2 : a = b
    · have hc : Hid (decide (Pth.Covers a b) = true) := Lib.hid (decide_eq_true (Or.inr (Or.inl h2)))
      rw [decide_eq_true h2] at eb
      clear h1 h2
      generalize mk a = x at *
      generalize mk b = y at *
      go_enter Tryz.func34, Tryz.ntmps34
      go_wp2_with fail
      go_ret
      exact ⟨by rw [hc.out]; rfl, rfl⟩
    · rw [decide_eq_false h2] at eb
      have hc : ∀ P : Prop, (Pth.Covers a b ↔ P) ↔ ((a.length < b.length ∧ b.take a.length = a ∧ b[a.length]? = some 47) ↔ P) := fun P => by
        unfold Pth.Covers
        constructor
        · intro h; rw [← h]; exact ⟨fun k => Or.inr (Or.inr k), fun k => (k.resolve_left h1).resolve_left h2⟩
        · intro h; rw [← h]; exact ⟨fun k => (k.resolve_left h1).resolve_left h2, fun k => Or.inr (Or.inr k)⟩
      by_cases h3 : a.length < b.length
      · have g3 : decide ((mk a).size < (mk b).size) = true := by rw [la, lb]; exact decide_eq_true h3
        have g3i : ((mk a).size : Int) < ((mk b).size : Int) := by rw [la, lb]; omega
        have g3j : ((mk a).size : Int) ≤ ((mk b).size : Int) := by omega
        have e4 : (((mk b).extract 0 (mk a).size).toList == (mk a).toList) = decide (b.take a.length = a) := by
          rw [Lib.toList_data, Lib.toList_data, Lib.extract_data, mk_data, mk_data, la, List.drop_zero, Nat.sub_zero]
          by_cases h : b.take a.length = a
          · rw [h, decide_eq_true rfl]; exact beq_self_eq_true _
          · rw [decide_eq_false h, beq_eq_false_iff_ne]; exact h
        by_cases h4 : b.take a.length = a
        · rw [decide_eq_true h4] at e4
          obtain ⟨c, hcc, ic⟩ := idx (mk b) (mk a).size (by rw [la, lb]; exact h3)
          rw [mk_data, la] at hcc
          have hx : Hid (decide (Pth.Covers a b) = decide (c.toNat = 47)) := Lib.hid (by
            rw [decide_eq_decide]
            refine (hc _).2 ⟨fun k => ?_, fun k => ⟨h3, h4, ?_⟩⟩
            · have := k.2.2
              rw [hcc] at this
              injection this with this
              rw [this]; rfl
            · rw [hcc]
              congr 1
              apply UInt8.toNat_inj.1
              exact k)
          have hc7 : (((c.toNat : Int)) == 47) = decide (c.toNat = 47) := by
            by_cases h : c.toNat = 47
            · rw [h]; rfl
            · rw [decide_eq_false h, beq_eq_false_iff_ne]; omega
          clear h1 h2 h3 h4 hc hcc la lb
          generalize mk a = x at *
          generalize mk b = y at *
          cases hd : decide (c.toNat = 47)
          all_goals
            rw [hd] at hx hc7
            generalize c.toNat = cn at *
            go_enter Tryz.func34, Tryz.ntmps34
            go_wp2_with fail
            go_ret
            exact ⟨by rw [hx.out]; rfl, rfl⟩
        · rw [decide_eq_false h4] at e4
          have hx : Hid (decide (Pth.Covers a b) = false) := Lib.hid (decide_eq_false (fun k => h4 (((hc (Pth.Covers a b)).1 Iff.rfl).2 k).2.1))
          clear h1 h2 h3 h4 hc la lb
          generalize mk a = x at *
          generalize mk b = y at *
          go_enter Tryz.func34, Tryz.ntmps34
          go_wp2_with fail
          go_ret
          exact ⟨by rw [hx.out]; rfl, rfl⟩
      · have g3 : decide ((mk a).size < (mk b).size) = false := by rw [la, lb]; exact decide_eq_false h3
        have hx : Hid (decide (Pth.Covers a b) = false) := Lib.hid (decide_eq_false (fun k => h3 (((hc (Pth.Covers a b)).1 Iff.rfl).2 k).1))
        clear h1 h2 h3 hc la lb
        generalize mk a = x at *
        generalize mk b = y at *
        go_enter Tryz.func34, Tryz.ntmps34
        go_wp2_with fail
        go_ret
        exact ⟨by rw [hx.out]; rfl, rfl⟩
set_option maxRecDepth 100000 in
theorem ref_covers (a b : List UInt8) (w : World) (ha : a.length ≤ 100000) (hb : b.length ≤ 100000) : Calls Tryz.prog 34 #[.string (mk a), .string (mk b)] w fun e w' => e = .returned (.bool (decide (Pth.Covers a b))) ∧ Below w.heap.size w w' :=
  (ref_covers0 a b w ha hb).mono fun _ _ h => ⟨h.1, by rw [h.2]; exact Below.refl _ _⟩
end Go.Proofs.YtjnpgfndbdddnaaGreat
/- What the package filter is to answer to layer 9's laws and those above (FilterOk); clauses in memory. -/
namespace Go.Proofs.YtjnpgfndbdddnaaGreat
open Go.RowKit

def clV (c : Flt.Cl) : List Value := [.string (mk c.pre), .int .i64 c.lo, .int .i64 c.hi]
/-- Clauses in memory. -/
abbrev Cls (w : World) (F : Nat → Prop) (v : Value) (l : List Flt.Cl) : Prop := Rws 3 clV w F v l
/-- Clauses as a program can hold them. -/
def Flt.Bd (c : Flt.Cl) : Prop := c.pre.length ≤ 100000 ∧ Go.Proofs.YtjnpgfndbdddnaaGreat.Bd (Flt.rg c)
def fileV (p : List UInt8) (size : Int) (dead : Bool) : Value := .agg #[.string (mk p), .int .i64 size, .bool dead]

set_option maxRecDepth 100000 in
theorem cl_len (c : Flt.Cl) : (clV c).length = 3 := rfl
set_option maxRecDepth 100000 in
theorem cl_one (c : Flt.Cl) : ∀ u ∈ clV c, u.oneCell' = true := by
  intro u hu
  unfold clV at hu
  simp only [List.mem_cons, List.not_mem_nil, or_false] at hu
  rcases hu with rfl | rfl | rfl <;> rfl

/-- What Check answers for the clauses, one behind the other. -/
def Flt.first : List Flt.Cl → Int
  | [] => 0
  | c :: l => if c.pre ≠ [] ∧ ¬ Pth.Right c.pre then 13 else if Flt.Right c then Flt.first l else 2
def Flt.check (f : List Flt.Cl) : Int := if 8 < f.length then 4 else Flt.first f
/-- Does one clause match a file? -/
def Flt.hit (p : List UInt8) (size : Int) (dead : Bool) (c : Flt.Cl) : Bool := decide (Pth.Covers c.pre p) && (dead || decide (0 ≤ size ∧ size ≤ 200 ∧ c.lo ≤ size ∧ size ≤ c.hi))
def Flt.hits (f : List Flt.Cl) (p : List UInt8) (size : Int) (dead : Bool) : Bool := f.any (Flt.hit p size dead)
def Flt.whole : List Flt.Cl := [⟨[], 0, 200⟩]

set_option maxRecDepth 100000 in
theorem Flt.hits_iff (f : List Flt.Cl) (p : List UInt8) (size : Int) (dead : Bool) : Flt.hits f p size dead = true ↔ Flt.Match f p size dead := by
  unfold Flt.hits Flt.Match Flt.hit
  rw [List.any_eq_true]
  refine exists_congr fun c => and_congr_right fun _ => ?_
  rw [Bool.and_eq_true, Bool.or_eq_true, decide_eq_true_iff, decide_eq_true_iff]
set_option maxRecDepth 100000 in
theorem Flt.hits_same {f g : List Flt.Cl} {p : List UInt8} {size : Int} {dead : Bool} (h : Flt.Match f p size dead ↔ Flt.Match g p size dead) : Flt.hits f p size dead = Flt.hits g p size dead := by
  rw [Bool.eq_iff_iff, Flt.hits_iff, Flt.hits_iff]; exact h

set_option maxRecDepth 100000 in
theorem Flt.ins_len (out : List Flt.Tx) (p : Flt.Tx) : (Flt.ins out p).length ≤ out.length + 1 := by
  unfold Flt.ins
  split
  · omega
  · have e := congrArg List.length (List.takeWhile_append_dropWhile (p := fun q => decide (q < p)) (l := out))
    rw [List.length_append] at e
    rw [List.length_append, List.length_cons]
    omega
set_option maxRecDepth 100000 in
theorem Flt.prefixes_len (f : List Flt.Cl) : (Flt.prefixes f).length ≤ f.length := by
  have : ∀ (f : List Flt.Cl) (out : List Flt.Tx), (f.foldl (fun out c => Flt.ins out c.pre) out).length ≤ out.length + f.length := by
    intro f
    induction f with
    | nil => intro out; simp
    | cons c f ih =>
      intro out
      have h1 := ih (Flt.ins out c.pre)
      have h2 := Flt.ins_len out c.pre
      rw [List.foldl_cons, List.length_cons]
      omega
  have := this f []
  simpa [Flt.prefixes] using this
set_option maxRecDepth 100000 in
theorem Flt.piece_len (f : List Flt.Cl) (p : Flt.Tx) : (Flt.piece f p).length ≤ 202 := (two_bd 2 _ _).2
set_option maxRecDepth 100000 in
theorem Flt.flat_len {α β : Type} (h : α → List β) (k : Nat) : ∀ (l : List α), (∀ x ∈ l, (h x).length ≤ k) → (l.flatMap h).length ≤ l.length * k
  | [], _ => by simp
  | x :: l, hk => by
    have h1 := hk x (by simp)
    have h2 := Flt.flat_len h k l (fun y hy => hk y (List.mem_cons_of_mem _ hy))
    rw [List.flatMap_cons, List.length_append, List.length_cons, Nat.add_one_mul]
    omega
set_option maxRecDepth 100000 in
theorem Flt.norm_len (f : List Flt.Cl) : (Flt.norm f).length ≤ f.length * 202 := by
  have h1 := Flt.flat_len (fun p => Flt.clauses p (Flt.piece f p)) 202 (Flt.prefixes f) (fun p _ => by unfold Flt.clauses; rw [List.length_map]; exact Flt.piece_len f p)
  have h2 := Flt.prefixes_len f
  unfold Flt.norm
  exact Nat.le_trans h1 (Nat.mul_le_mul_right _ h2)
set_option maxRecDepth 100000 in
theorem Flt.right_bd {c : Flt.Cl} (h : Flt.Right c) : Go.Proofs.YtjnpgfndbdddnaaGreat.Bd (Flt.rg c) := by
  obtain ⟨-, h1, h2, h3⟩ := h
  unfold Go.Proofs.YtjnpgfndbdddnaaGreat.Bd Flt.rg
  simp only
  omega
set_option maxRecDepth 100000 in
theorem Flt.norm_pre {f : List Flt.Cl} {c : Flt.Cl} (h : c ∈ Flt.norm f) : ∃ d ∈ f, d.pre = c.pre := by
  have hp := Flt.norm_mem.1 h
  have hin : c.pre ∈ Flt.prefixes f := by
    refine Classical.byContradiction (fun hn => ?_)
    rw [Flt.piece_out hn] at hp
    cases hp
  exact (Flt.prefixes_mem f _).1 hin

structure FilterOk : Prop where
  check : ∀ {w : World} {F : Nat → Prop} {v : Value} {f : List Flt.Cl}, Cls w F v f → f.length ≤ 100000 → (∀ c ∈ f, Flt.Bd c) → Calls Tryz.prog 11 #[v] w fun e w' => e = .returned (.int .i64 (Flt.check f)) ∧ Below w.heap.size w w'
  all : ∀ (w : World), Calls Tryz.prog 26 #[] w fun e w' => ∃ v', e = .returned v' ∧ Cls w' (NewIn w w') v' Flt.whole ∧ Below w.heap.size w w'
  hits : ∀ {w : World} {F : Nat → Prop} {v : Value} {f : List Flt.Cl} (p : List UInt8) (size : Int) (dead : Bool), Cls w F v f → f.length ≤ 100000 → (∀ c ∈ f, Flt.Bd c) → p.length ≤ 100000 → -9223372036854775808 ≤ size → size ≤ 9223372036854775807 → Calls Tryz.prog 12 #[v, fileV p size dead] w fun e w' => e = .returned (.bool (Flt.hits f p size dead)) ∧ Below w.heap.size w w'
  sizes : ∀ {w : World} {F : Nat → Prop} {v : Value} {f : List Flt.Cl} (p : List UInt8), Cls w F v f → f.length ≤ 100000 → (∀ c ∈ f, Flt.Bd c) → p.length ≤ 100000 → Calls Tryz.prog 15 #[v, .string (mk p)] w fun e w' => ∃ v', e = .returned v' ∧ Rgs w' (NewIn w w') v' (Sz.norm (Flt.sizes f p)) ∧ Below w.heap.size w w'
  norm : ∀ {w : World} {F : Nat → Prop} {v : Value} {f : List Flt.Cl}, Cls w F v f → f.length ≤ 100000 → (∀ c ∈ f, Flt.Right c) → (∀ c ∈ f, Flt.Bd c) → Calls Tryz.prog 20 #[v] w fun e w' => ∃ v', e = .returned v' ∧ Cls w' (NewIn w w') v' (Flt.norm f) ∧ Below w.heap.size w w'
  same : ∀ {w : World} {F G : Nat → Prop} {u v : Value} {f g : List Flt.Cl}, Cls w F u f → Cls w G v g → f.length ≤ 100000 → g.length ≤ 100000 → (∀ c ∈ f, Flt.Right c) → (∀ c ∈ g, Flt.Right c) → (∀ c ∈ f, Flt.Bd c) → (∀ c ∈ g, Flt.Bd c) → Calls Tryz.prog 23 #[u, v] w fun e w' => e = .returned (.bool (decide (Flt.norm f = Flt.norm g))) ∧ Below w.heap.size w w'
  equal : ∀ {w : World} {F G : Nat → Prop} {u v : Value} {f g : List Flt.Cl}, Cls w F u f → Cls w G v g → f.length ≤ 100000 → g.length ≤ 100000 → Calls Tryz.prog 25 #[u, v] w fun e w' => e = .returned (.bool (decide (f = g))) ∧ Below w.heap.size w w'

set_option maxRecDepth 100000 in
theorem Cls.at {w : World} {F : Nat → Prop} {b o : Nat} {n cap : Nat} {l : List Flt.Cl} (h : Cls w F (.slice (some ⟨b, o, none⟩) n cap) l) {i : Nat} {x : Flt.Cl} (hx : l[i]? = some x) :
    w.cell? ⟨b, o + i * 3, none⟩ = some (.string (mk x.pre)) ∧ w.cell? ⟨b, o + i * 3 + 1, none⟩ = some (.int .i64 x.lo) ∧ w.cell? ⟨b, o + i * 3 + 2, none⟩ = some (.int .i64 x.hi) := by
  obtain ⟨A, c, e, -, hat⟩ := h
  injection e with e1 e2 e3
  obtain ⟨b', o', e, -, -, hc⟩ := hat (by obtain ⟨hl, _⟩ := List.getElem?_eq_some_iff.1 hx; omega)
  rw [e] at e1
  injection e1 with e1
  injection e1 with e1 e2
  subst e1 e2
  exact ⟨hc i x hx 0 _ rfl, hc i x hx 1 _ rfl, hc i x hx 2 _ rfl⟩
end Go.Proofs.YtjnpgfndbdddnaaGreat
/- A region whose last operations wait for all the others (the stores of an assignment): the others come in whatever order, then these. No program is spoken of. -/
namespace Go.Proofs.YtjnpgfndbdddnaaGreat

section
variable {P : Program} {Q : Exit → Act → World → Prop} {md : Region.Mode}

set_option maxRecDepth 100000 in
theorem wpAny_fuel {ops : Array Oper} : ∀ (k fuel : Nat) (listed : Array Bool) (a : Act) (w : World), wpAny P md ops Q fuel listed a w → wpAny P md ops Q (fuel + k) listed a w := by
  intro k fuel
  induction fuel with
  | zero =>
    intro listed a w h
    cases k with
    | zero => exact h
    | succ k =>
      rw [Nat.zero_add]
      exact ⟨fun _ => h.2, fun i hi => by rw [h.1] at hi; cases hi⟩
  | succ fuel ih =>
    intro listed a w h
    rw [show fuel + 1 + k = (fuel + k) + 1 by omega]
    exact ⟨h.1, fun i hi => wpOp_mono (fun a w h => ih _ a w h) (h.2 i hi)⟩

/-- What is asked behind the first ones: the last ones, in their order. -/
def Tail (P : Program) (md : Region.Mode) (ops : Array Oper) (Q : Exit → Act → World → Prop) (m : Nat) (listed : Array Bool) : Exit → Act → World → Prop
  | .normal, a, w => wpAny P md ops Q m listed a w
  | e, a, w => Q e a w

set_option maxRecDepth 100000 in
theorem Oper.wp_tail {o : Oper} {a : Act} {w : World} {K K' : Act → World → Prop} {Q' : Exit → Act → World → Prop} (h : ∀ a w, K a w → K' a w) (hQ : ∀ e a w, e ≠ .normal → Q' e a w → Q e a w)
    (hh : o.wp P a w K Q') : o.wp P a w K' Q := by
  unfold Oper.wp at *
  generalize (execOp a.eval o).run P w = r at *
  cases r with
  | ok n w' =>
    cases n <;> simp only [Oper.upon] at hh ⊢
    · exact h _ _ hh
    · exact h _ _ hh
    · refine Calls.mono hh (fun e w'' he => ?_)
      cases e with
      | returned v => exact h _ _ he
      | panicked c => exact hQ _ _ _ (by simp) he
      | outgrown => exact he.imp fun a ha => ha.imp fun w hw => hQ _ _ _ (by simp) hw
    · exact h _ _ hh
    · exact Rows.mono hh (fun _ _ he => h _ _ he)
  | halt x w' =>
    cases x <;> simp only [Oper.upon] at hh ⊢
    exact hQ _ _ _ (by simp) hh

/-- The first n operations hang on none of the others; each of the others waits for all of the first n. -/
def tailOk (md : Region.Mode) (ops : Array Oper) (n : Nat) : Bool :=
  decide (n ≤ ops.size) && (List.range ops.size).all fun i => match ops[i]? with
    | none => true
    | some o => if i < n then (o.after.all fun e => !Region.binds md e || decide (e.on < i)) && (match o.guard with | none => true | some (j, _) => decide (j < n))
      else (List.range n).all fun j => o.after.any fun e => Region.binds md e && e.on == j

set_option maxRecDepth 100000 in
theorem tailOk_spec {ops : Array Oper} {n : Nat} (h : tailOk md ops n = true) : n ≤ ops.size ∧
    (∀ i o, ops[i]? = some o → i < n → (∀ e ∈ o.after, Region.binds md e = true → e.on < i) ∧ ∀ j b, o.guard = some (j, b) → j < n) ∧
    (∀ i o, ops[i]? = some o → n ≤ i → ∀ j, j < n → ∃ e ∈ o.after, Region.binds md e = true ∧ e.on = j) := by
  unfold tailOk at h
  rw [Bool.and_eq_true, List.all_eq_true] at h
  obtain ⟨h1, h2⟩ := h
  refine ⟨of_decide_eq_true h1, fun i o ho hi => ?_, fun i o ho hi j hj => ?_⟩
  · have hlt : i < ops.size := (Array.getElem?_eq_some_iff.1 ho).1
    have := h2 i (List.mem_range.2 hlt)
    simp only [ho, if_pos hi, Bool.and_eq_true] at this
    obtain ⟨ha, hg⟩ := this
    refine ⟨fun e he hb => ?_, fun j b hjb => ?_⟩
    · have := Array.all_eq_true_iff_forall_mem.1 ha e he
      simp only [hb, Bool.not_true, Bool.false_or] at this
      exact of_decide_eq_true this
    · rw [hjb] at hg
      exact of_decide_eq_true hg
  · have hlt : i < ops.size := (Array.getElem?_eq_some_iff.1 ho).1
    have := h2 i (List.mem_range.2 hlt)
    simp only [ho, if_neg (Nat.not_lt.2 hi)] at this
    have := List.all_eq_true.1 this j (List.mem_range.2 hj)
    rw [← Array.any_toList, List.any_eq_true] at this
    obtain ⟨e, he, hb⟩ := this
    simp only [Bool.and_eq_true, beq_iff_eq] at hb
    exact ⟨e, Array.mem_toList_iff.1 he, hb.1, hb.2⟩

set_option maxRecDepth 100000 in
theorem mask_get (l : Array Bool) (m : Nat) (j : Nat) (d : Bool) (h : j < l.size) : (l ++ Array.replicate m false).getD j d = l.getD j d := by
  simp only [Array.getD_eq_getD_getElem?]
  rw [Array.getElem?_append_left h]

set_option maxRecDepth 100000 in
theorem mask_set (l : Array Bool) (m : Nat) (j : Nat) (h : j < l.size) : (l ++ Array.replicate m false).setIfInBounds j true = l.setIfInBounds j true ++ Array.replicate m false := by
  rw [Array.setIfInBounds_append, if_pos h]

set_option maxRecDepth 100000 in
theorem take_get {ops : Array Oper} {n i : Nat} (hi : i < n) : (ops.extract 0 n)[i]? = ops[i]? := by
  rw [Array.getElem?_extract]
  by_cases h : i < ops.size
  · rw [if_pos (by omega), Nat.zero_add]
  · rw [if_neg (by omega), Array.getElem?_eq_none (by omega)]

set_option maxRecDepth 100000 in
theorem wpAny_tail {ops : Array Oper} {n : Nat} (hok : tailOk md ops n = true) : ∀ (fuel : Nat) (listed : Array Bool) (a : Act) (w : World), listed.size = n →
    wpAny P md (ops.extract 0 n) (Tail P md ops Q (ops.size - n) (Array.replicate n true ++ Array.replicate (ops.size - n) false)) fuel listed a w →
    wpAny P md ops Q (fuel + (ops.size - n)) (listed ++ Array.replicate (ops.size - n) false) a w := by
  obtain ⟨hn, hhd, htl⟩ := tailOk_spec hok
  have hsz : (ops.extract 0 n).size = n := by simp; omega
  -- what may come up of the first ones is what may come up of all
  have ready : ∀ listed : Array Bool, listed.size = n → ∀ i, i < n → (i ∈ Region.ready md ops (listed ++ Array.replicate (ops.size - n) false) ↔ i ∈ Region.ready md (ops.extract 0 n) listed) := by
    intro listed hl i hi
    rw [mem_ready, mem_ready, take_get hi, mask_get _ _ _ _ (by omega)]
    constructor
    · rintro ⟨h0, o, ho, ha⟩
      refine ⟨h0, o, ho, fun e he hb => ?_⟩
      have := ha e he hb
      rwa [mask_get _ _ _ _ (by have := (hhd i o ho hi).1 e he hb; omega)] at this
    · rintro ⟨h0, o, ho, ha⟩
      refine ⟨h0, o, ho, fun e he hb => ?_⟩
      rw [mask_get _ _ _ _ (by have := (hhd i o ho hi).1 e he hb; omega)]
      exact ha e he hb
  -- if none may come up, all have
  have full : ∀ listed : Array Bool, listed.size = n → Region.ready md (ops.extract 0 n) listed = [] → ∀ i, i < n → listed.getD i true = true := by
    intro listed hl hr i
    induction i using Nat.strongRecOn with
    | _ i ih =>
      intro hi
      cases hv : listed.getD i true with
      | true => rfl
      | false =>
        obtain ⟨o, ho⟩ : ∃ o, ops[i]? = some o := ⟨_, Array.getElem?_eq_getElem (by omega)⟩
        have : i ∈ Region.ready md (ops.extract 0 n) listed := mem_ready.2 ⟨hv, o, by rw [take_get hi]; exact ho, fun e he hb => by
          have hlt := (hhd i o ho hi).1 e he hb
          have := ih e.on hlt (by omega)
          rw [Array.getD_eq_getD_getElem?] at this ⊢
          rw [Array.getElem?_eq_getElem (by omega)] at this ⊢
          exact this⟩
        rw [hr] at this; cases this
  -- while one of the first ones may come up, none of the last ones may
  have late : ∀ listed : Array Bool, listed.size = n → ∀ i, i ∈ Region.ready md ops (listed ++ Array.replicate (ops.size - n) false) → n ≤ i → Region.ready md (ops.extract 0 n) listed = [] := by
    intro listed hl i hi hni
    obtain ⟨h0, o, ho, ha⟩ := mem_ready.1 hi
    rw [List.eq_nil_iff_forall_not_mem]
    intro j hj
    obtain ⟨hj0, oj, hoj, _⟩ := mem_ready.1 hj
    have hjn : j < n := by have := (Array.getElem?_eq_some_iff.1 hoj).1; omega
    obtain ⟨e, he, hb, heq⟩ := htl i o ho hni j hjn
    have := ha e he hb
    rw [heq, mask_get _ _ _ _ (by omega), Array.getD_eq_getD_getElem?, Array.getElem?_eq_getElem (by omega)] at this
    rw [Array.getD_eq_getD_getElem?, Array.getElem?_eq_getElem (by omega)] at hj0
    simp only [Option.getD_some] at this hj0
    rw [this] at hj0; cases hj0
  have allSet : ∀ listed : Array Bool, listed.size = n → Region.ready md (ops.extract 0 n) listed = [] → listed = Array.replicate n true := by
    intro listed hl hr
    apply Array.ext
    · simp [hl]
    · intro i h1 h2
      have := full listed hl hr i (by omega)
      rw [Array.getD_eq_getD_getElem?, Array.getElem?_eq_getElem h1] at this
      simpa using this
  intro fuel
  induction fuel with
  | zero =>
    intro listed a w hl h
    rw [Nat.zero_add, allSet listed hl h.1]
    exact h.2
  | succ fuel ih =>
    intro listed a w hl h
    by_cases hr : Region.ready md (ops.extract 0 n) listed = []
    · rw [allSet listed hl hr, Nat.add_comm]
      exact wpAny_fuel _ _ _ _ _ (h.1 hr)
    · rw [show fuel + 1 + (ops.size - n) = (fuel + (ops.size - n)) + 1 by omega]
      have hin : ∀ i, i ∈ Region.ready md ops (listed ++ Array.replicate (ops.size - n) false) → i < n := fun i hi => by
        rcases Nat.lt_or_ge i n with hlt | hge
        · exact hlt
        · exact absurd (late listed hl i hi hge) hr
      refine ⟨fun h0 => ?_, fun i hi => ?_⟩
      · exfalso
        obtain ⟨i, hi⟩ := List.exists_mem_of_ne_nil _ hr
        have hlt : i < n := by
          obtain ⟨_, o, ho, _⟩ := mem_ready.1 hi
          have := (Array.getElem?_eq_some_iff.1 ho).1
          omega
        have := (ready listed hl i hlt).2 hi
        rw [h0] at this; cases this
      · have hlt := hin i hi
        have h2 := h.2 i ((ready listed hl i hlt).1 hi)
        obtain ⟨o, ho⟩ : ∃ o, ops[i]? = some o := ⟨_, Array.getElem?_eq_getElem (by omega)⟩
        have hK : ∀ a w, wpAny P md (ops.extract 0 n) (Tail P md ops Q (ops.size - n) (Array.replicate n true ++ Array.replicate (ops.size - n) false)) fuel (listed.setIfInBounds i true) a w →
            wpAny P md ops Q (fuel + (ops.size - n)) ((listed ++ Array.replicate (ops.size - n) false).setIfInBounds i true) a w := fun a w hw => by
          rw [mask_set _ _ _ (by omega)]
          exact ih _ a w (by simpa using hl) hw
        have hy : Region.wanted o (yielded ops a.tmps) = Region.wanted o (yielded (ops.extract 0 n) a.tmps) := by
          unfold Region.wanted
          cases hg : o.guard with
          | none => rfl
          | some g =>
            obtain ⟨j, b⟩ := g
            have hj := (hhd i o ho hlt).2 j b hg
            simp only [yielded, take_get hj]
        unfold wpOp at h2 ⊢
        rw [take_get hlt] at h2
        simp only [ho] at h2 ⊢
        rw [hy]
        split
        · rename_i hw
          simp only [hw, if_true] at h2
          rcases h2 with h2 | ⟨h2, a', w', h3⟩
          · exact .inl (Oper.wp_tail hK (fun e a w hne he => by cases e <;> first | exact absurd rfl hne | exact he) h2)
          · exact .inr ⟨h2, a', w', h3⟩
        · rename_i hw
          simp only [hw] at h2
          exact hK _ _ h2

set_option maxRecDepth 100000 in
/-- **The beginning.** -/
theorem wp_region_tail {ops hd : Array Oper} {id n : Nat} {a : Act} {w : World} {S : World → Prop} (hm : P.follows .mixedOrders = true) (hok : tailOk .any ops n = true) (hhd : ops.extract 0 n = hd) (hS : S w.drew)
    (h : S w.drew → wpAnyH P .any hd (Tail P .any ops Q (ops.size - n) (Array.replicate n true ++ Array.replicate (ops.size - n) false)) S n (Array.replicate n false) a w.drew) : (Code.region id ops true).wp P Q a w := by
  subst hhd
  refine wp_region_any hm ?_
  have h1 := wpAny_tail hok n (Array.replicate n false) a w.drew (by simp) (wpAny_of_held _ _ _ _ (h hS))
  have hn := (tailOk_spec hok).1
  have e1 : n + (ops.size - n) = ops.size := by omega
  have e2 : Array.replicate n false ++ Array.replicate (ops.size - n) false = Array.replicate ops.size false := by
    rw [Array.replicate_append_replicate, e1]
  rw [e1, e2] at h1
  exact h1
end
end Go.Proofs.YtjnpgfndbdddnaaGreat
