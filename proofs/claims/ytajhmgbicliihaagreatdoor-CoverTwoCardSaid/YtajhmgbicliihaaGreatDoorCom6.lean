/- What the package sizes is to answer to layer 8's laws and those above (SizesOk); ranges in memory. -/
import Derived.Test.YtajhmgbicliihaaGreatDoorCom1
import Derived.Test.YtajhmgbicliihaaGreatDoorCom4
import Derived.Test.YtajhmgbicliihaaGreatDoorCom5
import Derived.Test.YtajhmgbicliihaaGreatDoorCom2
import Derived.Deep.Slices
import Derived.OwnWalk
namespace Go.Proofs.YtajhmgbicliihaaGreatDoor
open Go.RowKit

def rgV (r : Sz.Rg) : List Value := [.int .i64 r.1, .int .i64 r.2]
/-- Ranges in memory. -/
abbrev Rgs (w : World) (F : Nat → Prop) (v : Value) (l : List Sz.Rg) : Prop := Rws 2 rgV w F v l
/-- Numbers as a program can hold them. -/
def Bd (r : Sz.Rg) : Prop := -9223372036854775808 ≤ r.1 ∧ r.1 ≤ 9223372036854775807 ∧ -9223372036854775808 ≤ r.2 ∧ r.2 ≤ 9223372036854775807

set_option maxRecDepth 100000 in
theorem rg_len (r : Sz.Rg) : (rgV r).length = 2 := rfl
set_option maxRecDepth 100000 in
theorem rg_one (r : Sz.Rg) : ∀ u ∈ rgV r, u.oneCell' = true := by
  intro u hu
  unfold rgV at hu
  simp only [List.mem_cons, List.not_mem_nil, or_false] at hu
  rcases hu with rfl | rfl <;> rfl

structure SizesOk : Prop where
  norm : ∀ {w : World} {F : Nat → Prop} {v : Value} {l : List Sz.Rg}, Rgs w F v l → l.length ≤ 100000 → (∀ r ∈ l, Bd r) → Calls Tryz.prog 54 #[v] w fun e w' => ∃ v', e = .returned v' ∧ Rgs w' (NewIn w w') v' (Sz.norm l) ∧ Below w.heap.size w w'
  join : ∀ {w : World} {F G : Nat → Prop} {u v : Value} {a b : List Sz.Rg}, Rgs w F u a → Rgs w G v b → a.length ≤ 100000 → b.length ≤ 100000 → (∀ r ∈ a, Bd r) → (∀ r ∈ b, Bd r) → Calls Tryz.prog 47 #[u, v] w fun e w' => ∃ v', e = .returned v' ∧ Rgs w' (NewIn w w') v' (Sz.two 0 a b) ∧ Below w.heap.size w w'
  meet : ∀ {w : World} {F G : Nat → Prop} {u v : Value} {a b : List Sz.Rg}, Rgs w F u a → Rgs w G v b → a.length ≤ 100000 → b.length ≤ 100000 → (∀ r ∈ a, Bd r) → (∀ r ∈ b, Bd r) → Calls Tryz.prog 22 #[u, v] w fun e w' => ∃ v', e = .returned v' ∧ Rgs w' (NewIn w w') v' (Sz.two 1 a b) ∧ Below w.heap.size w w'
  minus : ∀ {w : World} {F G : Nat → Prop} {u v : Value} {a b : List Sz.Rg}, Rgs w F u a → Rgs w G v b → a.length ≤ 100000 → b.length ≤ 100000 → (∀ r ∈ a, Bd r) → (∀ r ∈ b, Bd r) → Calls Tryz.prog 30 #[u, v] w fun e w' => ∃ v', e = .returned v' ∧ Rgs w' (NewIn w w') v' (Sz.two 2 a b) ∧ Below w.heap.size w w'
set_option maxRecDepth 100000 in
theorem Rgs.at {w : World} {F : Nat → Prop} {b o : Nat} {n cap : Nat} {l : List Sz.Rg} (h : Rgs w F (.slice (some ⟨b, o, none⟩) n cap) l) {i : Nat} {x : Sz.Rg} (hx : l[i]? = some x) :
    w.cell? ⟨b, o + i * 2, none⟩ = some (.int .i64 x.1) ∧ w.cell? ⟨b, o + i * 2 + 1, none⟩ = some (.int .i64 x.2) := by
  obtain ⟨A, c, e, -, hat⟩ := h
  injection e with e1 e2 e3
  obtain ⟨b', o', e, -, -, hc⟩ := hat (by obtain ⟨hl, _⟩ := List.getElem?_eq_some_iff.1 hx; omega)
  rw [e] at e1
  injection e1 with e1
  injection e1 with e1 e2
  subst e1 e2
  exact ⟨hc i x hx 0 _ rfl, hc i x hx 1 _ rfl⟩

set_option maxRecDepth 100000 in
theorem Rgs.slice {w : World} {F : Nat → Prop} {v : Value} {l : List Sz.Rg} (h : Rgs w F v l) : ∃ A cap, v = .slice A l.length cap ∧ l.length ≤ cap := by
  obtain ⟨A, c, e, hc, hat⟩ := h
  exact ⟨A, c, e, hc⟩

set_option maxRecDepth 100000 in
theorem Rgs.shape {w : World} {F : Nat → Prop} {v : Value} {l : List Sz.Rg} (h : Rgs w F v l) (h0 : 0 < l.length) : ∃ b o cap, v = .slice (some ⟨b, o, Option.none⟩) l.length cap ∧ l.length ≤ cap ∧ F b ∧ b < w.heap.size := by
  obtain ⟨A, c, e, hc, hat⟩ := h
  obtain ⟨b, o, rfl, hb, hl, -⟩ := hat h0
  exact ⟨b, o, c, e, hc, hb, hl⟩

set_option maxRecDepth 100000 in
theorem norm_bd (l : List Sz.Rg) : (∀ r ∈ Sz.norm l, Bd r) ∧ (Sz.norm l).length ≤ 202 := by
  refine ⟨fun r hr => ?_, ?_⟩
  · have := Sz.formR_bd (Sz.of l) 0 none (by rw [Sz.of_len]; omega) (fun lo h => by cases h) r hr
    unfold Bd; omega
  · have := Sz.formR_len (Sz.of l) 0 none
    rw [Sz.of_len] at this
    exact this
set_option maxRecDepth 100000 in
theorem two_bd (k : Nat) (a b : List Sz.Rg) : (∀ r ∈ Sz.two k a b, Bd r) ∧ (Sz.two k a b).length ≤ 202 := by
  refine ⟨fun r hr => ?_, ?_⟩
  · have := Sz.formR_bd _ 0 none (by simp) (fun lo h => by cases h) r hr
    unfold Bd; omega
  · have := Sz.formR_len ((List.range 201).map fun (i : Nat) => Sz.pick k (Sz.holds a (i : Int)) (Sz.holds b (i : Int))) 0 none
    rw [List.length_map, List.length_range] at this
    exact this
end Go.Proofs.YtajhmgbicliihaaGreatDoor
/- A call's own slice of elements of whatever cells (RowsOwn): begun, one element more, kept. -/
namespace Go.Proofs.YtajhmgbicliihaaGreatDoor
open Go.RowKit

section
variable {α : Type} {t k : Nat} {f : α → List Value} {w wr w1 w2 : World} {out : List α} {v v' : Value}

set_option maxRecDepth 100000 in
theorem row_below {base t size n : Nat} {v : Value} {xs : List Value} (h : w.ownsRow base t size v n xs) (k : Below w.heap.size w w1) : w1.ownsRow base t size v n xs :=
  h.kept (Kept.ofBelow k (fun i => i = w.heap.size)).grown (Or.inr (fun e => by have := (h.lt _ e).2; omega))

/-- The call's own slice holds these elements. -/
def RowsOwn (t k : Nat) (f : α → List Value) (w : World) (out : List α) (v : Value) (wr : World) : Prop := wr.ownsRow w.heap.size t k v out.length (out.flatMap f) ∧ Below w.heap.size w wr

set_option maxRecDepth 100000 in
theorem RowsOwn.start (t k : Nat) (f : α → List Value) (w : World) : RowsOwn t k f w [] (.slice none 0 0) w := ⟨World.ownsRow_nil _ _ _ _, Below.refl _ _⟩
set_option maxRecDepth 100000 in
theorem RowsOwn.first (h : Below w.heap.size w wr) : RowsOwn t k f w [] (.slice none 0 0) wr := ⟨World.ownsRow_nil _ _ _ _, h⟩
set_option maxRecDepth 100000 in
theorem RowsOwn.below (h : RowsOwn t k f w out v w1) (hb : Below w1.heap.size w1 w2) : RowsOwn t k f w out v w2 := ⟨row_below h.1 hb, h.2.trans (hb.mono h.2.size)⟩
set_option maxRecDepth 100000 in
theorem row_lower {a b t size n : Nat} {v : Value} {xs : List Value} (h : w.ownsRow b t size v n xs) (hab : a ≤ b) : w.ownsRow a t size v n xs := by
  refine ⟨h.1, ?_⟩
  rcases h.2 with h2 | ⟨g, cap, cur, hv, hb, r⟩
  · exact Or.inl h2
  · exact Or.inr ⟨g, cap, cur, hv, Nat.le_trans hab hb, r⟩
set_option maxRecDepth 100000 in
/-- What a call made that came later. -/
theorem RowsOwn.since (h : RowsOwn t k f w1 out v w2) (hb : Below w.heap.size w w1) : RowsOwn t k f w out v w2 := ⟨row_lower h.1 hb.size, hb.trans (h.2.mono hb.size)⟩
set_option maxRecDepth 100000 in
theorem RowsOwn.more {x : α} {o : Obj} (h : RowsOwn t k f w out v wr) (hown : w2.ownsRow w.heap.size t k v' (out.length + 1) (out.flatMap f ++ f x)) (hg : (wr.alloc o).grownBy w2 v.ownBlock) : RowsOwn t k f w (out ++ [x]) v' w2 := by
  obtain ⟨h1, h2⟩ := h
  refine ⟨?_, (h2.alloc h2.size o).grown hg (by have := h2.size; simp; omega) (fun k hk => (h1.lt k hk).1)⟩
  rw [List.length_append, List.flatMap_append]
  simpa using hown
set_option maxRecDepth 100000 in
theorem RowsOwn.rows (h : RowsOwn t k f w out v wr) (hk : ∀ x ∈ out, (f x).length = k) : Rws k f wr (NewIn w wr) v out := Rws.ofOwn h.1 rfl hk (fun _ _ h1 h2 => ⟨h1, h2⟩)
set_option maxRecDepth 100000 in
theorem Rws.block {F : Nat → Prop} {v : Value} {l : List α} (h : Rws k f w F v l) (h0 : 0 < l.length) : ∃ b o cap, v = .slice (some ⟨b, o, Option.none⟩) l.length cap ∧ l.length ≤ cap ∧ F b ∧ b < w.heap.size := by
  obtain ⟨A, c, e, hc, hat⟩ := h
  obtain ⟨b, o, rfl, hb, hl, -⟩ := hat h0
  exact ⟨b, o, c, e, hc, hb, hl⟩
set_option maxRecDepth 100000 in
theorem Rws.parts {F : Nat → Prop} {v : Value} {l : List α} (h : Rws k f w F v l) : ∃ A cap, v = .slice A l.length cap ∧ l.length ≤ cap := by
  obtain ⟨A, c, e, hc, hat⟩ := h
  exact ⟨A, c, e, hc⟩
end
end Go.Proofs.YtajhmgbicliihaaGreatDoor
/- Two slices of texts: whether they are one list (the reference's Texts). -/
namespace Go.Proofs.YtajhmgbicliihaaGreatDoor
open Go.RowKit

set_option maxRecDepth 100000 in
theorem Cells.below {w w' : World} {F : Nat → Prop} {v : Value} {us : List Value} (h : Cells w F v us) (k : Below w.heap.size w w') : Cells w' F v us := h.kept (Kept.ofBelow k (fun _ => False)) (fun _ _ h => h)

set_option maxRecDepth 100000 in
theorem below_drews' (w : World) (n : Nat) : Below w.heap.size w (w.drewN n) := ⟨rfl, rfl, rfl, Nat.le_refl _, fun _ _ => rfl⟩

set_option maxRecDepth 100000 in
theorem strInfo : (Tryz.prog.info? 9).map (fun i => (i.zero, i.size, i.bytes)) = some (some (.string ⟨#[]⟩), 1, 16) := by kernel_rfl

set_option maxRecDepth 100000 in
theorem own_below {w w' : World} {base t size n : Nat} {v : Value} {xs : List Value} (h : w.ownsRow base t size v n xs) (k : Below w.heap.size w w') : w'.ownsRow base t size v n xs :=
  h.kept (Kept.ofBelow k (fun i => i = w.heap.size)).grown (Or.inr (fun e => by have := (h.lt _ e).2; omega))

/-- The call's own slice holds these texts. -/
def TextsOwn (w : World) (out : List (List UInt8)) (v : Value) (wr : World) : Prop := wr.ownsRow w.heap.size 9 1 v out.length (texts out) ∧ Below w.heap.size w wr

set_option maxRecDepth 100000 in
theorem texts_start (w : World) : TextsOwn w [] (.slice none 0 0) w := ⟨World.ownsRow_nil _ _ _ _, Below.refl _ _⟩

set_option maxRecDepth 100000 in
theorem TextsOwn.below {w w1 w2 : World} {out : List (List UInt8)} {v : Value} (h : TextsOwn w out v w1) (k : Below w1.heap.size w1 w2) : TextsOwn w out v w2 := ⟨own_below h.1 k, h.2.trans (k.mono h.2.size)⟩

set_option maxRecDepth 100000 in
theorem texts_more {w wr w2 : World} {out : List (List UInt8)} {v v' : Value} {o : Obj} {x : List UInt8} (h : TextsOwn w out v wr) (hown : w2.ownsRow w.heap.size 9 1 v' (out.length + 1) (texts out ++ [.string (mk x)])) (hg : (wr.alloc o).grownBy w2 v.ownBlock) :
    TextsOwn w (out ++ [x]) v' w2 := by
  obtain ⟨h1, h2⟩ := h
  refine ⟨?_, (h2.alloc h2.size o).grown hg (by have := h2.size; simp; omega) (fun k hk => (h1.lt k hk).1)⟩
  rw [List.length_append]
  simpa [texts] using hown

set_option maxRecDepth 100000 in
theorem TextsOwn.cells {w w' : World} {out : List (List UInt8)} {v : Value} (h : TextsOwn w out v w') : Cells w' (NewIn w w') v (texts out) := Cells.ofOwn h.1 (fun _ _ h1 h2 => ⟨h1, h2⟩)
end Go.Proofs.YtajhmgbicliihaaGreatDoor
/- What the package path is to answer (PathOk); the document's own Covers. -/
namespace Go.Proofs.YtajhmgbicliihaaGreatDoor
open Go.RowKit

/-- What the package is to answer. -/
structure PathOk : Prop where
  parent : ∀ (a : List UInt8) (w : World), a.length ≤ 100000 → Calls Tryz.prog 35 #[.string (mk a)] w fun e w' => e = .returned (.string (mk (Pth.parent a))) ∧ Below w.heap.size w w'

set_option maxRecDepth 100000 in
set_option maxHeartbeats 1600000 in
theorem ref_covers1 (a b : List UInt8) (w : World) (ha : a.length ≤ 100000) : Calls Tryz.prog 23 #[.string (mk a), .string (mk b)] w fun e w' => e = .returned (.bool (decide (Pth.Covers a b))) ∧ w' = w := by
  have la : (mk a).size = a.length := mk_len a
  have lb : (mk b).size = b.length := mk_len b
  have ia : (mk a).toList.isEmpty = decide (a = []) := by rw [Lib.toList_data, mk_data]; cases a <;> rfl
  have ea : ((mk a).toList == []) = decide (a = []) := by rw [Lib.toList_data, mk_data]; cases a <;> rfl
  have eb : ((mk a).toList == (mk b).toList) = decide (a = b) := by
    rw [Lib.toList_data, Lib.toList_data, mk_data, mk_data]
    by_cases h : a = b
    · rw [h, decide_eq_true rfl]; exact beq_self_eq_true _
    · rw [decide_eq_false h, beq_eq_false_iff_ne]; exact h
  by_cases h1 : a = []
  · have hc : Hid (decide (Pth.Covers a b) = true) := Lib.hid (decide_eq_true (Or.inl h1))
    rw [decide_eq_true h1] at ia ea
    clear h1 eb
    generalize mk a = x at *
    generalize mk b = y at *
    go_enter Tryz.func23, Tryz.ntmps23
    go_wp2_with fail
    go_ret
    exact ⟨by rw [hc.out]; rfl, rfl⟩
  · rw [decide_eq_false h1] at ia ea
    by_cases h2 : a = b
    · have hc : Hid (decide (Pth.Covers a b) = true) := Lib.hid (decide_eq_true (Or.inr (Or.inl h2)))
      rw [decide_eq_true h2] at eb
      clear h1 h2
      generalize mk a = x at *
      generalize mk b = y at *
      go_enter Tryz.func23, Tryz.ntmps23
      go_wp2_with fail
      go_ret
      exact ⟨by rw [hc.out]; rfl, rfl⟩
    · rw [decide_eq_false h2] at eb
      have hc : ∀ P : Prop, (Pth.Covers a b ↔ P) ↔ ((a.length < b.length ∧ b.take a.length = a ∧ b[a.length]? = some 47) ↔ P) := fun P => by
        unfold Pth.Covers
        constructor
        · intro h; rw [← h]; exact ⟨fun k => Or.inr (Or.inr k), fun k => (k.resolve_left h1).resolve_left h2⟩
        · intro h; rw [← h]; exact ⟨fun k => (k.resolve_left h1).resolve_left h2, fun k => Or.inr (Or.inr k)⟩
      by_cases h3 : a.length < b.length
      · have g3 : decide ((mk a).size < (mk b).size) = true := by rw [la, lb]; exact decide_eq_true h3
        have g3i : ((mk a).size : Int) < ((mk b).size : Int) := by rw [la, lb]; omega
        have g3j : ((mk a).size : Int) ≤ ((mk b).size : Int) := by omega
        have e4 : (((mk b).extract 0 (mk a).size).toList == (mk a).toList) = decide (b.take a.length = a) := by
          rw [Lib.toList_data, Lib.toList_data, Lib.extract_data, mk_data, mk_data, la, List.drop_zero, Nat.sub_zero]
          by_cases h : b.take a.length = a
          · rw [h, decide_eq_true rfl]; exact beq_self_eq_true _
          · rw [decide_eq_false h, beq_eq_false_iff_ne]; exact h
        by_cases h4 : b.take a.length = a
        · rw [decide_eq_true h4] at e4
          obtain ⟨c, hcc, ic⟩ := idx (mk b) (mk a).size (by rw [la, lb]; exact h3)
          rw [mk_data, la] at hcc
          have hx : Hid (decide (Pth.Covers a b) = decide (c.toNat = 47)) := Lib.hid (by
            rw [decide_eq_decide]
            refine (hc _).2 ⟨fun k => ?_, fun k => ⟨h3, h4, ?_⟩⟩
            · have := k.2.2
              rw [hcc] at this
              injection this with this
              rw [this]; rfl
            · rw [hcc]
              congr 1
              apply UInt8.toNat_inj.1
              exact k)
          have hc7 : (((c.toNat : Int)) == 47) = decide (c.toNat = 47) := by
            by_cases h : c.toNat = 47
            · rw [h]; rfl
            · rw [decide_eq_false h, beq_eq_false_iff_ne]; omega
          clear h1 h2 h3 h4 hc hcc la lb
          generalize mk a = x at *
          generalize mk b = y at *
          cases hd : decide (c.toNat = 47)
          all_goals
            rw [hd] at hx hc7
            generalize c.toNat = cn at *
            go_enter Tryz.func23, Tryz.ntmps23
            go_wp2_with fail
            go_ret
            exact ⟨by rw [hx.out]; rfl, rfl⟩
        · rw [decide_eq_false h4] at e4
          have hx : Hid (decide (Pth.Covers a b) = false) := Lib.hid (decide_eq_false (fun k => h4 (((hc (Pth.Covers a b)).1 Iff.rfl).2 k).2.1))
          clear h1 h2 h3 h4 hc la lb
          generalize mk a = x at *
          generalize mk b = y at *
          go_enter Tryz.func23, Tryz.ntmps23
          go_wp2_with fail
          go_ret
          exact ⟨by rw [hx.out]; rfl, rfl⟩
      · have g3 : decide ((mk a).size < (mk b).size) = false := by rw [la, lb]; exact decide_eq_false h3
        have hx : Hid (decide (Pth.Covers a b) = false) := Lib.hid (decide_eq_false (fun k => h3 (((hc (Pth.Covers a b)).1 Iff.rfl).2 k).1))
        clear h1 h2 h3 hc la lb
        generalize mk a = x at *
        generalize mk b = y at *
        go_enter Tryz.func23, Tryz.ntmps23
        go_wp2_with fail
        go_ret
        exact ⟨by rw [hx.out]; rfl, rfl⟩
set_option maxRecDepth 100000 in
theorem ref_covers0 (a b : List UInt8) (w : World) (ha : a.length ≤ 100000) (_hb : b.length ≤ 100000) : Calls Tryz.prog 23 #[.string (mk a), .string (mk b)] w fun e w' => e = .returned (.bool (decide (Pth.Covers a b))) ∧ w' = w := ref_covers1 a b w ha
set_option maxRecDepth 100000 in
theorem ref_covers (a b : List UInt8) (w : World) (ha : a.length ≤ 100000) (hb : b.length ≤ 100000) : Calls Tryz.prog 23 #[.string (mk a), .string (mk b)] w fun e w' => e = .returned (.bool (decide (Pth.Covers a b))) ∧ Below w.heap.size w w' :=
  (ref_covers0 a b w ha hb).mono fun _ _ h => ⟨h.1, by rw [h.2]; exact Below.refl _ _⟩
end Go.Proofs.YtajhmgbicliihaaGreatDoor
/- What the package filter is to answer to layer 9's laws and those above (FilterOk); clauses in memory. -/
namespace Go.Proofs.YtajhmgbicliihaaGreatDoor
open Go.RowKit

def clV (c : Flt.Cl) : List Value := [.string (mk c.pre), .int .i64 c.lo, .int .i64 c.hi]
/-- Clauses in memory. -/
abbrev Cls (w : World) (F : Nat → Prop) (v : Value) (l : List Flt.Cl) : Prop := Rws 3 clV w F v l
/-- Clauses as a program can hold them. -/
def Flt.Bd (c : Flt.Cl) : Prop := c.pre.length ≤ 100000 ∧ Go.Proofs.YtajhmgbicliihaaGreatDoor.Bd (Flt.rg c)
def fileV (p : List UInt8) (size : Int) (dead : Bool) : Value := .agg #[.string (mk p), .int .i64 size, .bool dead]

set_option maxRecDepth 100000 in
theorem cl_len (c : Flt.Cl) : (clV c).length = 3 := rfl
set_option maxRecDepth 100000 in
theorem cl_one (c : Flt.Cl) : ∀ u ∈ clV c, u.oneCell' = true := by
  intro u hu
  unfold clV at hu
  simp only [List.mem_cons, List.not_mem_nil, or_false] at hu
  rcases hu with rfl | rfl | rfl <;> rfl

/-- What Check answers for the clauses, one behind the other. -/
def Flt.first : List Flt.Cl → Int
  | [] => 0
  | c :: l => if c.pre ≠ [] ∧ ¬ Pth.Right c.pre then 13 else if Flt.Right c then Flt.first l else 2
def Flt.check (f : List Flt.Cl) : Int := if 8 < f.length then 4 else Flt.first f
/-- Does one clause match a file? -/
def Flt.hit (p : List UInt8) (size : Int) (dead : Bool) (c : Flt.Cl) : Bool := decide (Pth.Covers c.pre p) && (dead || decide (0 ≤ size ∧ size ≤ 200 ∧ c.lo ≤ size ∧ size ≤ c.hi))
def Flt.hits (f : List Flt.Cl) (p : List UInt8) (size : Int) (dead : Bool) : Bool := f.any (Flt.hit p size dead)
def Flt.whole : List Flt.Cl := [⟨[], 0, 200⟩]

set_option maxRecDepth 100000 in
theorem Flt.hits_iff (f : List Flt.Cl) (p : List UInt8) (size : Int) (dead : Bool) : Flt.hits f p size dead = true ↔ Flt.Match f p size dead := by
  unfold Flt.hits Flt.Match Flt.hit
  rw [List.any_eq_true]
  refine exists_congr fun c => and_congr_right fun _ => ?_
  rw [Bool.and_eq_true, Bool.or_eq_true, decide_eq_true_iff, decide_eq_true_iff]
set_option maxRecDepth 100000 in
theorem Flt.hits_same {f g : List Flt.Cl} {p : List UInt8} {size : Int} {dead : Bool} (h : Flt.Match f p size dead ↔ Flt.Match g p size dead) : Flt.hits f p size dead = Flt.hits g p size dead := by
  rw [Bool.eq_iff_iff, Flt.hits_iff, Flt.hits_iff]; exact h

set_option maxRecDepth 100000 in
theorem Flt.ins_len (out : List Flt.Tx) (p : Flt.Tx) : (Flt.ins out p).length ≤ out.length + 1 := by
  unfold Flt.ins
  split
  · omega
  · have e := congrArg List.length (List.takeWhile_append_dropWhile (p := fun q => decide (q < p)) (l := out))
    rw [List.length_append] at e
    rw [List.length_append, List.length_cons]
    omega
set_option maxRecDepth 100000 in
theorem Flt.prefixes_len (f : List Flt.Cl) : (Flt.prefixes f).length ≤ f.length := by
  have : ∀ (f : List Flt.Cl) (out : List Flt.Tx), (f.foldl (fun out c => Flt.ins out c.pre) out).length ≤ out.length + f.length := by
    intro f
    induction f with
    | nil => intro out; simp
    | cons c f ih =>
      intro out
      have h1 := ih (Flt.ins out c.pre)
      have h2 := Flt.ins_len out c.pre
      rw [List.foldl_cons, List.length_cons]
      omega
  have := this f []
  simpa [Flt.prefixes] using this
set_option maxRecDepth 100000 in
theorem Flt.piece_len (f : List Flt.Cl) (p : Flt.Tx) : (Flt.piece f p).length ≤ 202 := (two_bd 2 _ _).2
set_option maxRecDepth 100000 in
theorem Flt.flat_len {α β : Type} (h : α → List β) (k : Nat) : ∀ (l : List α), (∀ x ∈ l, (h x).length ≤ k) → (l.flatMap h).length ≤ l.length * k
  | [], _ => by simp
  | x :: l, hk => by
    have h1 := hk x (by simp)
    have h2 := Flt.flat_len h k l (fun y hy => hk y (List.mem_cons_of_mem _ hy))
    rw [List.flatMap_cons, List.length_append, List.length_cons, Nat.add_one_mul]
    omega
set_option maxRecDepth 100000 in
theorem Flt.norm_len (f : List Flt.Cl) : (Flt.norm f).length ≤ f.length * 202 := by
  have h1 := Flt.flat_len (fun p => Flt.clauses p (Flt.piece f p)) 202 (Flt.prefixes f) (fun p _ => by unfold Flt.clauses; rw [List.length_map]; exact Flt.piece_len f p)
  have h2 := Flt.prefixes_len f
  unfold Flt.norm
  exact Nat.le_trans h1 (Nat.mul_le_mul_right _ h2)
set_option maxRecDepth 100000 in
theorem Flt.right_bd {c : Flt.Cl} (h : Flt.Right c) : Go.Proofs.YtajhmgbicliihaaGreatDoor.Bd (Flt.rg c) := by
  obtain ⟨-, h1, h2, h3⟩ := h
  unfold Go.Proofs.YtajhmgbicliihaaGreatDoor.Bd Flt.rg
  simp only
  omega
set_option maxRecDepth 100000 in
theorem Flt.norm_pre {f : List Flt.Cl} {c : Flt.Cl} (h : c ∈ Flt.norm f) : ∃ d ∈ f, d.pre = c.pre := by
  have hp := Flt.norm_mem.1 h
  have hin : c.pre ∈ Flt.prefixes f := by
    refine Classical.byContradiction (fun hn => ?_)
    rw [Flt.piece_out hn] at hp
    cases hp
  exact (Flt.prefixes_mem f _).1 hin

structure FilterOk : Prop where
  all : ∀ (w : World), Calls Tryz.prog 15 #[] w fun e w' => ∃ v', e = .returned v' ∧ Cls w' (NewIn w w') v' Flt.whole ∧ Below w.heap.size w w'
  norm : ∀ {w : World} {F : Nat → Prop} {v : Value} {f : List Flt.Cl}, Cls w F v f → f.length ≤ 100000 → (∀ c ∈ f, Flt.Right c) → (∀ c ∈ f, Flt.Bd c) → Calls Tryz.prog 19 #[v] w fun e w' => ∃ v', e = .returned v' ∧ Cls w' (NewIn w w') v' (Flt.norm f) ∧ Below w.heap.size w w'
  same : ∀ {w : World} {F G : Nat → Prop} {u v : Value} {f g : List Flt.Cl}, Cls w F u f → Cls w G v g → f.length ≤ 100000 → g.length ≤ 100000 → (∀ c ∈ f, Flt.Right c) → (∀ c ∈ g, Flt.Right c) → (∀ c ∈ f, Flt.Bd c) → (∀ c ∈ g, Flt.Bd c) → Calls Tryz.prog 16 #[u, v] w fun e w' => e = .returned (.bool (decide (Flt.norm f = Flt.norm g))) ∧ Below w.heap.size w w'
  equal : ∀ {w : World} {F G : Nat → Prop} {u v : Value} {f g : List Flt.Cl}, Cls w F u f → Cls w G v g → f.length ≤ 100000 → g.length ≤ 100000 → Calls Tryz.prog 31 #[u, v] w fun e w' => e = .returned (.bool (decide (f = g))) ∧ Below w.heap.size w w'

set_option maxRecDepth 100000 in
theorem Cls.at {w : World} {F : Nat → Prop} {b o : Nat} {n cap : Nat} {l : List Flt.Cl} (h : Cls w F (.slice (some ⟨b, o, none⟩) n cap) l) {i : Nat} {x : Flt.Cl} (hx : l[i]? = some x) :
    w.cell? ⟨b, o + i * 3, none⟩ = some (.string (mk x.pre)) ∧ w.cell? ⟨b, o + i * 3 + 1, none⟩ = some (.int .i64 x.lo) ∧ w.cell? ⟨b, o + i * 3 + 2, none⟩ = some (.int .i64 x.hi) := by
  obtain ⟨A, c, e, -, hat⟩ := h
  injection e with e1 e2 e3
  obtain ⟨b', o', e, -, -, hc⟩ := hat (by obtain ⟨hl, _⟩ := List.getElem?_eq_some_iff.1 hx; omega)
  rw [e] at e1
  injection e1 with e1
  injection e1 with e1 e2
  subst e1 e2
  exact ⟨hc i x hx 0 _ rfl, hc i x hx 1 _ rfl, hc i x hx 2 _ rfl⟩
end Go.Proofs.YtajhmgbicliihaaGreatDoor
