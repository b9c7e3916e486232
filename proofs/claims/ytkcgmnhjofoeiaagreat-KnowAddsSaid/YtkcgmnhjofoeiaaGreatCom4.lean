import Derived.Test.YtkcgmnhjofoeiaaGreatCom3
import Derived.Test.YtkcgmnhjofoeiaaGreatCom1
import Derived.Test.YtkcgmnhjofoeiaaGreatCom2
import Derived.Lib.Hide
import Derived.OwnWalk
import Derived.Laws.BitsAllLaws
import Derived.Deep.Slices
import Derived.Lib.Strings
set_option maxRecDepth 100000
set_option linter.all false
set_option maxHeartbeats 12800000
namespace Go.Proofs.YtkcgmnhjofoeiaaGreat
open Go.RowKit
theorem Cells.below {w w' : World} {F : Nat → Prop} {v : Value} {us : List Value} (h : Cells w F v us) (k : Below w.heap.size w w') : Cells w' F v us := h.kept (Kept.ofBelow k (fun _ => False)) (fun _ _ h => h)
theorem below_drews' (w : World) (n : Nat) : Below w.heap.size w (w.drewN n) := ⟨rfl, rfl, rfl, Nat.le_refl _, fun _ _ => rfl⟩
theorem strInfo : (Tryz.prog.info? 9).map (fun i => (i.zero, i.size, i.bytes)) = some (some (.string ⟨#[]⟩), 1, 16) := by kernel_rfl
theorem own_below {w w' : World} {base t size n : Nat} {v : Value} {xs : List Value} (h : w.ownsRow base t size v n xs) (k : Below w.heap.size w w') : w'.ownsRow base t size v n xs :=
 h.kept (Kept.ofBelow k (fun i => i = w.heap.size)).grown (Or.inr (fun e => by have := (h.lt _ e).2; omega))
def TextsOwn (w : World) (out : List (List UInt8)) (v : Value) (wr : World) : Prop := wr.ownsRow w.heap.size 9 1 v out.length (texts out) ∧ Below w.heap.size w wr
theorem texts_start (w : World) : TextsOwn w [] (.slice none 0 0) w := ⟨World.ownsRow_nil _ _ _ _, Below.refl _ _⟩
theorem TextsOwn.below {w w1 w2 : World} {out : List (List UInt8)} {v : Value} (h : TextsOwn w out v w1) (k : Below w1.heap.size w1 w2) : TextsOwn w out v w2 := ⟨own_below h.1 k, h.2.trans (k.mono h.2.size)⟩
theorem texts_more {w wr w2 : World} {out : List (List UInt8)} {v v' : Value} {o : Obj} {x : List UInt8} (h : TextsOwn w out v wr) (hown : w2.ownsRow w.heap.size 9 1 v' (out.length + 1) (texts out ++ [.string (mk x)])) (hg : (wr.alloc o).grownBy w2 v.ownBlock) :
  TextsOwn w (out ++ [x]) v' w2 := by
 obtain ⟨h1, h2⟩ := h
 refine ⟨?_, (h2.alloc h2.size o).grown hg (by have := h2.size; simp; omega) (fun k hk => (h1.lt k hk).1)⟩
 rw [List.length_append]
 simpa [texts] using hown
theorem TextsOwn.cells {w w' : World} {out : List (List UInt8)} {v : Value} (h : TextsOwn w out v w') : Cells w' (NewIn w w') v (texts out) := Cells.ofOwn h.1 (fun _ _ h1 h2 => ⟨h1, h2⟩)
open Go.RowKit
theorem idx (s : ByteArray) (k : Nat) (h : k < s.size) : ∃ c : UInt8, s.data.toList[k]? = some c ∧ ∀ V : World, (Instr.index 9 (.string s) (.int .i64 (k : Int))).run Tryz.prog V = .ok (.int .u8 (c.toNat : Int)) V := by
 refine ⟨s[k]'h, ?_, fun V => by go_simp⟩
 rw [List.getElem?_eq_getElem (by rw [← Lib.size_eq]; exact h), Array.getElem_toList]
 rfl
open Go.RowKit
structure PathOk : Prop where
 parent : ∀ (a : List UInt8) (w : World), a.length ≤ 100000 → Calls Tryz.prog 101 #[.string (mk a)] w fun e w' => e = .returned (.string (mk (Pth.parent a))) ∧ Below w.heap.size w w'
theorem ref_covers1 (a b : List UInt8) (w : World) (ha : a.length ≤ 100000) : Calls Tryz.prog 107 #[.string (mk a), .string (mk b)] w fun e w' => e = .returned (.bool (decide (Pth.Covers a b))) ∧ w' = w := by
 have la : (mk a).size = a.length := mk_len a
 have lb : (mk b).size = b.length := mk_len b
 have ia : (mk a).toList.isEmpty = decide (a = []) := by rw [Lib.toList_data, mk_data]; cases a <;> rfl
 have ea : ((mk a).toList == []) = decide (a = []) := by rw [Lib.toList_data, mk_data]; cases a <;> rfl
 have eb : ((mk a).toList == (mk b).toList) = decide (a = b) := by
  rw [Lib.toList_data, Lib.toList_data, mk_data, mk_data]
  by_cases h : a = b
  ·rw [h, decide_eq_true rfl]; exact beq_self_eq_true _
  ·rw [decide_eq_false h, beq_eq_false_iff_ne]; exact h
 by_cases h1 : a = []
 ·have hc : Hid (decide (Pth.Covers a b) = true) := Lib.hid (decide_eq_true (Or.inl h1))
  rw [decide_eq_true h1] at ia ea
  clear h1 eb
  generalize mk a = x at *
  generalize mk b = y at *
  go_enter Tryz.func107, Tryz.ntmps107
  go_wp2_with fail
  go_ret
  exact ⟨by rw [hc.out]; rfl, rfl⟩
 ·rw [decide_eq_false h1] at ia ea
  by_cases h2 : a = b
  ·have hc : Hid (decide (Pth.Covers a b) = true) := Lib.hid (decide_eq_true (Or.inr (Or.inl h2)))
   rw [decide_eq_true h2] at eb
   clear h1 h2
   generalize mk a = x at *
   generalize mk b = y at *
   go_enter Tryz.func107, Tryz.ntmps107
   go_wp2_with fail
   go_ret
   exact ⟨by rw [hc.out]; rfl, rfl⟩
  ·rw [decide_eq_false h2] at eb
   have hc : ∀ P : Prop, (Pth.Covers a b ↔ P) ↔ ((a.length < b.length ∧ b.take a.length = a ∧ b[a.length]? = some 47) ↔ P) := fun P => by
    unfold Pth.Covers
    constructor
    ·intro h; rw [← h]; exact ⟨fun k => Or.inr (Or.inr k), fun k => (k.resolve_left h1).resolve_left h2⟩
    ·intro h; rw [← h]; exact ⟨fun k => (k.resolve_left h1).resolve_left h2, fun k => Or.inr (Or.inr k)⟩
   by_cases h3 : a.length < b.length
   ·have g3 : decide ((mk a).size < (mk b).size) = true := by rw [la, lb]; exact decide_eq_true h3
    have g3i : ((mk a).size : Int) < ((mk b).size : Int) := by rw [la, lb]; omega
    have g3j : ((mk a).size : Int) ≤ ((mk b).size : Int) := by omega
    have e4 : (((mk b).extract 0 (mk a).size).toList == (mk a).toList) = decide (b.take a.length = a) := by
     rw [Lib.toList_data, Lib.toList_data, Lib.extract_data, mk_data, mk_data, la, List.drop_zero, Nat.sub_zero]
     by_cases h : b.take a.length = a
     ·rw [h, decide_eq_true rfl]; exact beq_self_eq_true _
     ·rw [decide_eq_false h, beq_eq_false_iff_ne]; exact h
    by_cases h4 : b.take a.length = a
    ·rw [decide_eq_true h4] at e4
     obtain ⟨c, hcc, ic⟩ := idx (mk b) (mk a).size (by rw [la, lb]; exact h3)
     rw [mk_data, la] at hcc
     have hx : Hid (decide (Pth.Covers a b) = decide (c.toNat = 47)) := Lib.hid (by
      rw [decide_eq_decide]
      refine (hc _).2 ⟨fun k => ?_, fun k => ⟨h3, h4, ?_⟩⟩
      ·have := k.2.2
       rw [hcc] at this
       injection this with this
       rw [this]; rfl
      ·rw [hcc]
       congr 1
       apply UInt8.toNat_inj.1
       exact k)
     have hc7 : (((c.toNat : Int)) == 47) = decide (c.toNat = 47) := by
      by_cases h : c.toNat = 47
      ·rw [h]; rfl
      ·rw [decide_eq_false h, beq_eq_false_iff_ne]; omega
     clear h1 h2 h3 h4 hc hcc la lb
     generalize mk a = x at *
     generalize mk b = y at *
     cases hd : decide (c.toNat = 47)
     all_goals
      rw [hd] at hx hc7
      generalize c.toNat = cn at *
      go_enter Tryz.func107, Tryz.ntmps107
      go_wp2_with fail
      go_ret
      exact ⟨by rw [hx.out]; rfl, rfl⟩
    ·rw [decide_eq_false h4] at e4
     have hx : Hid (decide (Pth.Covers a b) = false) := Lib.hid (decide_eq_false (fun k => h4 (((hc (Pth.Covers a b)).1 Iff.rfl).2 k).2.1))
     clear h1 h2 h3 h4 hc la lb
     generalize mk a = x at *
     generalize mk b = y at *
     go_enter Tryz.func107, Tryz.ntmps107
     go_wp2_with fail
     go_ret
     exact ⟨by rw [hx.out]; rfl, rfl⟩
   ·have g3 : decide ((mk a).size < (mk b).size) = false := by rw [la, lb]; exact decide_eq_false h3
    have hx : Hid (decide (Pth.Covers a b) = false) := Lib.hid (decide_eq_false (fun k => h3 (((hc (Pth.Covers a b)).1 Iff.rfl).2 k).1))
    clear h1 h2 h3 hc la lb
    generalize mk a = x at *
    generalize mk b = y at *
    go_enter Tryz.func107, Tryz.ntmps107
    go_wp2_with fail
    go_ret
    exact ⟨by rw [hx.out]; rfl, rfl⟩
theorem ref_covers0 (a b : List UInt8) (w : World) (ha : a.length ≤ 100000) (_hb : b.length ≤ 100000) : Calls Tryz.prog 107 #[.string (mk a), .string (mk b)] w fun e w' => e = .returned (.bool (decide (Pth.Covers a b))) ∧ w' = w := ref_covers1 a b w ha
theorem ref_covers (a b : List UInt8) (w : World) (ha : a.length ≤ 100000) (hb : b.length ≤ 100000) : Calls Tryz.prog 107 #[.string (mk a), .string (mk b)] w fun e w' => e = .returned (.bool (decide (Pth.Covers a b))) ∧ Below w.heap.size w w' :=
 (ref_covers0 a b w ha hb).mono fun _ _ h => ⟨h.1, by rw [h.2]; exact Below.refl _ _⟩
open Go.RowKit
def clV (c : Flt.Cl) : List Value := [.string (mk c.pre), .int .i64 c.lo, .int .i64 c.hi]
abbrev Cls (w : World) (F : Nat → Prop) (v : Value) (l : List Flt.Cl) : Prop := Rws 3 clV w F v l
def Flt.Bd (c : Flt.Cl) : Prop := c.pre.length ≤ 100000 ∧ Go.Proofs.YtkcgmnhjofoeiaaGreat.Bd (Flt.rg c)
theorem cl_len (c : Flt.Cl) : (clV c).length = 3 := rfl
theorem cl_one (c : Flt.Cl) : ∀ u ∈ clV c, u.oneCell' = true := by
 intro u hu
 unfold clV at hu
 simp only [List.mem_cons, List.not_mem_nil, or_false] at hu
 rcases hu with rfl | rfl | rfl <;> rfl
def Flt.first : List Flt.Cl → Int
 | [] => 0
 | c :: l => if c.pre ≠ [] ∧ ¬ Pth.Right c.pre then 13 else if Flt.Right c then Flt.first l else 2
def Flt.check (f : List Flt.Cl) : Int := if 8 < f.length then 4 else Flt.first f
def Flt.whole : List Flt.Cl := [⟨[], 0, 200⟩]
theorem Flt.ins_len (out : List Flt.Tx) (p : Flt.Tx) : (Flt.ins out p).length ≤ out.length + 1 := by
 unfold Flt.ins
 split
 ·omega
 ·have e := congrArg List.length (List.takeWhile_append_dropWhile (p := fun q => decide (q < p)) (l := out))
  rw [List.length_append] at e
  rw [List.length_append, List.length_cons]
  omega
theorem Flt.prefixes_len (f : List Flt.Cl) : (Flt.prefixes f).length ≤ f.length := by
 have : ∀ (f : List Flt.Cl) (out : List Flt.Tx), (f.foldl (fun out c => Flt.ins out c.pre) out).length ≤ out.length + f.length := by
  intro f
  induction f with
  | nil => intro out; simp
  | cons c f ih =>
   intro out
   have h1 := ih (Flt.ins out c.pre)
   have h2 := Flt.ins_len out c.pre
   rw [List.foldl_cons, List.length_cons]
   omega
 have := this f []
 simpa [Flt.prefixes] using this
theorem Flt.piece_len (f : List Flt.Cl) (p : Flt.Tx) : (Flt.piece f p).length ≤ 202 := (two_bd 2 _ _).2
theorem Flt.flat_len {α β : Type} (h : α → List β) (k : Nat) : ∀ (l : List α), (∀ x ∈ l, (h x).length ≤ k) → (l.flatMap h).length ≤ l.length * k
 | [], _ => by simp
 | x :: l, hk => by
  have h1 := hk x (by simp)
  have h2 := Flt.flat_len h k l (fun y hy => hk y (List.mem_cons_of_mem _ hy))
  rw [List.flatMap_cons, List.length_append, List.length_cons, Nat.add_one_mul]
  omega
theorem Flt.norm_len (f : List Flt.Cl) : (Flt.norm f).length ≤ f.length * 202 := by
 have h1 := Flt.flat_len (fun p => Flt.clauses p (Flt.piece f p)) 202 (Flt.prefixes f) (fun p _ => by unfold Flt.clauses; rw [List.length_map]; exact Flt.piece_len f p)
 have h2 := Flt.prefixes_len f
 unfold Flt.norm
 exact Nat.le_trans h1 (Nat.mul_le_mul_right _ h2)
theorem Flt.right_bd {c : Flt.Cl} (h : Flt.Right c) : Go.Proofs.YtkcgmnhjofoeiaaGreat.Bd (Flt.rg c) := by
 obtain ⟨-, h1, h2, h3⟩ := h
 unfold Go.Proofs.YtkcgmnhjofoeiaaGreat.Bd Flt.rg
 simp only
 omega
theorem Flt.norm_pre {f : List Flt.Cl} {c : Flt.Cl} (h : c ∈ Flt.norm f) : ∃ d ∈ f, d.pre = c.pre := by
 have hp := Flt.norm_mem.1 h
 have hin : c.pre ∈ Flt.prefixes f := by
  refine Classical.byContradiction (fun hn => ?_)
  rw [Flt.piece_out hn] at hp
  cases hp
 exact (Flt.prefixes_mem f _).1 hin
structure FilterOk : Prop where
 all : ∀ (w : World), Calls Tryz.prog 23 #[] w fun e w' => ∃ v', e = .returned v' ∧ Cls w' (NewIn w w') v' Flt.whole ∧ Below w.heap.size w w'
 norm : ∀ {w : World} {F : Nat → Prop} {v : Value} {f : List Flt.Cl}, Cls w F v f → f.length ≤ 100000 → (∀ c ∈ f, Flt.Right c) → (∀ c ∈ f, Flt.Bd c) → Calls Tryz.prog 79 #[v] w fun e w' => ∃ v', e = .returned v' ∧ Cls w' (NewIn w w') v' (Flt.norm f) ∧ Below w.heap.size w w'
theorem Cls.at {w : World} {F : Nat → Prop} {b o : Nat} {n cap : Nat} {l : List Flt.Cl} (h : Cls w F (.slice (some ⟨b, o, none⟩) n cap) l) {i : Nat} {x : Flt.Cl} (hx : l[i]? = some x) :
  w.cell? ⟨b, o + i * 3, none⟩ = some (.string (mk x.pre)) ∧ w.cell? ⟨b, o + i * 3 + 1, none⟩ = some (.int .i64 x.lo) ∧ w.cell? ⟨b, o + i * 3 + 2, none⟩ = some (.int .i64 x.hi) := by
 obtain ⟨A, c, e, -, hat⟩ := h
 injection e with e1 e2 e3
 obtain ⟨b', o', e, -, -, hc⟩ := hat (by obtain ⟨hl, _⟩ := List.getElem?_eq_some_iff.1 hx; omega)
 rw [e] at e1
 injection e1 with e1
 injection e1 with e1 e2
 subst e1 e2
 exact ⟨hc i x hx 0 _ rfl, hc i x hx 1 _ rfl, hc i x hx 2 _ rfl⟩
end Go.Proofs.YtkcgmnhjofoeiaaGreat
namespace Go.Proofs.YtkcgmnhjofoeiaaGreat.Cov
open Flt (Tx Cl sizes prefixes norm)
def own (L : List Cl) (p : Tx) : List Sz.Rg := (L.filter fun c => decide (c.pre = p)).map Flt.rg
theorem own_more (L : List Cl) (c : Cl) (q : Tx) : own (L ++ [c]) q = own L q ++ if c.pre = q then [Flt.rg c] else [] := by
 unfold own
 rw [List.filter_append, List.map_append]
 congr 1
 by_cases h : c.pre = q <;> simp [h]
theorem own_len (L : List Cl) (q : Tx) : (own L q).length ≤ L.length := by
 unfold own
 rw [List.length_map]
 exact List.length_filter_le _ _
theorem own_holds (L : List Cl) (p : Tx) (n : Int) : Sz.holds (own L p) n = true ↔ (0 ≤ n ∧ n ≤ 200) ∧ ∃ c ∈ L, c.pre = p ∧ c.lo ≤ n ∧ n ≤ c.hi := by
 rw [Flt.holds_mem]
 refine and_congr_right (fun _ => ?_)
 unfold own
 constructor
 ·rintro ⟨r, hr, h⟩
  obtain ⟨c, hc, rfl⟩ := List.mem_map.1 hr
  obtain ⟨h1, h2⟩ := List.mem_filter.1 hc
  exact ⟨c, h1, of_decide_eq_true h2, h⟩
 ·rintro ⟨c, hc, h1, h2⟩
  exact ⟨Flt.rg c, List.mem_map.2 ⟨c, List.mem_filter.2 ⟨hc, decide_eq_true h1⟩, rfl⟩, h2⟩
theorem own_bd {L : List Cl} (h : ∀ c ∈ L, 0 ≤ c.lo ∧ c.lo ≤ c.hi ∧ c.hi ≤ 200) (p : Tx) : ∀ r ∈ own L p, 0 ≤ r.1 ∧ r.1 ≤ r.2 ∧ r.2 ≤ 200 := by
 intro r hr
 obtain ⟨c, hc, rfl⟩ := List.mem_map.1 hr
 exact h c (List.mem_filter.1 hc).1
theorem own_flat (h : Tx → List Sz.Rg) (q : Tx) : ∀ l : List Tx, l.Nodup → own (l.flatMap fun p => Flt.clauses p (h p)) q = if q ∈ l then h q else []
 | [], _ => rfl
 | p :: l, hl => by
  obtain ⟨h1, h2⟩ := List.nodup_cons.1 hl
  have ih := own_flat h q l h2
  have hc : own (Flt.clauses p (h p)) q = if p = q then h p else [] := by
   unfold own Flt.clauses
   by_cases e : p = q
   ·rw [if_pos e, List.filter_map, List.map_map]
    have : ((fun c : Cl => decide (c.pre = q)) ∘ fun r : Sz.Rg => (⟨p, r.1, r.2⟩ : Cl)) = fun _ => true := by funext r; simp [e]
    rw [this, List.filter_eq_self.2 (fun _ _ => rfl)]
    exact List.map_id' _
   ·rw [if_neg e, List.filter_map]
    have : ((fun c : Cl => decide (c.pre = q)) ∘ fun r : Sz.Rg => (⟨p, r.1, r.2⟩ : Cl)) = fun _ => false := by funext r; simp [e]
    rw [this, List.filter_eq_nil_iff.2 (fun _ _ => by simp)]
    rfl
  have ha : own ((p :: l).flatMap fun p => Flt.clauses p (h p)) q = own (Flt.clauses p (h p)) q ++ own (l.flatMap fun p => Flt.clauses p (h p)) q := by
   unfold own
   rw [List.flatMap_cons, List.filter_append, List.map_append]
  rw [ha, hc, ih]
  by_cases e : p = q
  ·subst e
   rw [if_pos rfl, if_neg h1, if_pos (List.mem_cons_self ..), List.append_nil]
  ·rw [if_neg e, List.nil_append]
   by_cases hq : q ∈ l
   ·rw [if_pos hq, if_pos (List.mem_cons_of_mem _ hq)]
   ·rw [if_neg hq, if_neg (fun hm => (List.mem_cons.1 hm).elim (fun h => e h.symm) hq)]
theorem up_nodup {l : List Tx} (h : Flt.Up l) : l.Nodup := h.imp (fun {a b} hab e => by subst e; exact Flt.tlt_irrefl _ hab)
theorem own_norm (f : List Cl) (q : Tx) : own (norm f) q = if q ∈ prefixes f then Flt.piece f q else [] := own_flat _ q _ (up_nodup (Flt.prefixes_up f))
theorem own_norm_len (f : List Cl) (q : Tx) : (own (norm f) q).length ≤ 202 := by
 rw [own_norm]
 split
 ·exact Flt.piece_len f q
 ·simp
theorem norm_bd {f : List Cl} : ∀ c ∈ norm f, 0 ≤ c.lo ∧ c.lo ≤ c.hi ∧ c.hi ≤ 200 := fun c hc => Sz.formR_bd _ 0 none (by simp) (fun lo h => by cases h) _ (Flt.norm_mem.1 hc)
def Ups (L : List Cl) (p q : Tx) (X : List Sz.Rg) : Prop := Pth.Covers q p ∧ X.length ≤ 202 * (p.length - q.length + 1) ∧ (∀ r ∈ X, 0 ≤ r.1 ∧ r.1 ≤ r.2 ∧ r.2 ≤ 200) ∧ ∀ n, Sz.holds X n = true ↔ (0 ≤ n ∧ n ≤ 200) ∧ ∃ c ∈ L, Pth.Covers c.pre p ∧ q.length ≤ c.pre.length ∧ c.lo ≤ n ∧ n ≤ c.hi
theorem covers_same {a b : Tx} (h : Pth.Covers a b) (hl : b.length ≤ a.length) : a = b := by
 rcases h with h | h | h
 ·subst h
  exact (List.eq_nil_of_length_eq_zero (by have h8 : ([] : Tx).length = 0 := rfl; omega)).symm
 ·exact h
 ·omega
theorem ups_start {L : List Cl} (h : ∀ q, (own L q).length ≤ 202) (hb : ∀ c ∈ L, 0 ≤ c.lo ∧ c.lo ≤ c.hi ∧ c.hi ≤ 200) (p : Tx) : Ups L p p (own L p) := by
 refine ⟨Pth.covers_refl _, by have := h p; omega, own_bd hb p, fun n => ?_⟩
 rw [own_holds]
 refine and_congr_right (fun _ => ?_)
 constructor
 ·rintro ⟨c, hc, h1, h2⟩
  exact ⟨c, hc, by rw [h1]; exact Pth.covers_refl _, by rw [h1]; exact Nat.le_refl _, h2⟩
 ·rintro ⟨c, hc, h1, h2, h3⟩
  exact ⟨c, hc, covers_same h1 h2, h3⟩
theorem ups_step {L : List Cl} (h : ∀ q, (own L q).length ≤ 202) (hb : ∀ c ∈ L, 0 ≤ c.lo ∧ c.lo ≤ c.hi ∧ c.hi ≤ 200) {p q : Tx} {X : List Sz.Rg} (hq : q ≠ []) (hX : Ups L p q X) : Ups L p (Pth.parent q) (X ++ own L (Pth.parent q)) := by
 obtain ⟨h1, h2, h3, h4⟩ := hX
 have hs := Pth.parent_short hq
 have hc := Pth.parent_covers q
 refine ⟨Pth.covers_trans hc h1, ?_, fun r hr => ?_, fun n => ?_⟩
 ·rw [List.length_append]
  have := h (Pth.parent q)
  have := Pth.covers_len h1
  omega
 ·rcases List.mem_append.1 hr with hr | hr
  ·exact h3 r hr
  ·exact own_bd hb _ r hr
 ·rw [Sz.holds_append, Bool.or_eq_true, h4, own_holds, ← and_or_left]
  refine and_congr_right (fun _ => ?_)
  constructor
  ·rintro (⟨c, hc1, k1, k2, k3⟩ | ⟨c, hc1, k1, k2⟩)
   ·exact ⟨c, hc1, k1, by omega, k3⟩
   ·exact ⟨c, hc1, by rw [k1]; exact Pth.covers_trans hc h1, by rw [k1]; exact Nat.le_refl _, k2⟩
  ·rintro ⟨c, hc1, k1, k2, k3⟩
   by_cases hl : q.length ≤ c.pre.length
   ·exact Or.inl ⟨c, hc1, k1, hl, k3⟩
   ·have k4 := Flt.covers_both k1 h1 (by omega)
    have k5 := (Pth.covers_parent hq (fun e => hl (by rw [e]; exact Nat.le_refl _))).1 k4
    exact Or.inr ⟨c, hc1, covers_same k5 k2, k3⟩
theorem ups_end {L : List Cl} {p : Tx} {X : List Sz.Rg} (h : Ups L p [] X) (n : Int) : Sz.holds X n = Sz.holds (sizes L p) n := by
 rw [Bool.eq_iff_iff, h.2.2.2 n, Flt.sizes_holds]
 refine and_congr_right (fun _ => exists_congr fun c => and_congr_right fun _ => ?_)
 exact ⟨fun k => ⟨k.1, k.2.2⟩, fun k => ⟨k.1, Nat.zero_le _, k.2⟩⟩
def leaf (k : Nat) (g : List Cl) (c : Cl) : List Cl := Flt.clauses c.pre (Sz.two k [Flt.rg c] (sizes g c.pre))
def parts (k : Nat) (f g : List Cl) : List Cl := (norm f).flatMap (leaf k g)
def partsTo (k : Nat) (f g : List Cl) (n : Nat) : List Cl := ((norm f).take n).flatMap (leaf k g)
theorem parts_left (f g : List Cl) : parts 2 f g = left f g := rfl
theorem partsTo_more {k : Nat} {f g : List Cl} {n : Nat} {c : Cl} (h : (norm f)[n]? = some c) : partsTo k f g (n + 1) = partsTo k f g n ++ leaf k g c := by
 obtain ⟨hl, he⟩ := List.getElem?_eq_some_iff.1 h
 unfold partsTo
 rw [List.take_succ_eq_append_getElem hl, he, List.flatMap_append]
 simp
theorem partsTo_all (k : Nat) (f g : List Cl) : partsTo k f g (norm f).length = parts k f g := by
 unfold partsTo parts
 rw [List.take_length]
theorem wide_len : ∀ {l : List Sz.Rg}, (∀ r ∈ l, r.1 ≤ r.2) → (l.length : Int) ≤ Sz.wide l
 | [], _ => by simp [Sz.wide]
 | r :: l, h => by
  have h1 := h r (List.mem_cons_self ..)
  have h2 := wide_len (l := l) (fun x hx => h x (List.mem_cons_of_mem _ hx))
  unfold Sz.wide at h2 ⊢
  rw [List.map_cons, List.sum_cons, List.length_cons]
  omega
theorem two_wide (k : Nat) (a b : List Sz.Rg) : Sz.wide (Sz.two k a b) = ((((List.range 201).map fun (i : Nat) => Sz.pick k (Sz.holds a (i : Int)) (Sz.holds b (i : Int))).filter id).length : Int) := by
 unfold Sz.two Sz.form
 rw [Sz.formR_wide _ 0 none (fun lo h => by cases h)]
 simp
theorem two_wide_le (k : Nat) (a b : List Sz.Rg) : Sz.wide (Sz.two k a b) ≤ 201 := by
 rw [two_wide]
 have := List.length_filter_le id ((List.range 201).map fun (i : Nat) => Sz.pick k (Sz.holds a (i : Int)) (Sz.holds b (i : Int)))
 rw [List.length_map, List.length_range] at this
 omega
theorem filter_map_le {α : Type} (p q : α → Bool) : ∀ l : List α, (∀ x ∈ l, p x = true → q x = true) → ((l.map p).filter id).length ≤ ((l.map q).filter id).length
 | [], _ => by simp
 | x :: l, h => by
  have ih := filter_map_le p q l (fun y hy => h y (List.mem_cons_of_mem _ hy))
  have hx := h x (List.mem_cons_self ..)
  rw [List.map_cons, List.map_cons]
  cases hp : p x
  ·cases hq : q x
   ·simpa using ih
   ·simp at ih ⊢; omega
  ·rw [hx hp]
   simp at ih ⊢; omega
theorem two_one_len {k : Nat} (hk : k = 1 ∨ k = 2) {r : Sz.Rg} (hr : 0 ≤ r.1 ∧ r.1 ≤ r.2 ∧ r.2 ≤ 200) (b : List Sz.Rg) : ((Sz.two k [r] b).length : Int) ≤ r.2 - r.1 + 1 := by
 refine Int.le_trans (wide_len (fun x hx => (Sz.formR_bd _ 0 none (by simp) (fun lo h => by cases h) x hx).2.1)) ?_
 have hn : [r] = Sz.norm [r] := Sz.norm_is (l := [r]) (m := [r]) ⟨hr.1, hr.2.1, hr.2.2, trivial⟩ (fun _ => rfl)
 have hw := Sz.form_wide [r]
 rw [← hn] at hw
 have e : Sz.wide [r] = r.2 - r.1 + 1 := by simp [Sz.wide]
 rw [← e, hw, two_wide]
 have := filter_map_le (fun (i : Nat) => Sz.pick k (Sz.holds [r] (i : Int)) (Sz.holds b (i : Int))) (fun (i : Nat) => Sz.holds [r] (i : Int)) (List.range 201) (fun i _ h => by
  unfold Sz.pick at h
  rcases hk with rfl | rfl
  ·simp at h; exact h.1
  ·simp at h; exact h.1)
 unfold Sz.many Sz.of
 omega
theorem leaves_len {k : Nat} (hk : k = 1 ∨ k = 2) (g : List Cl) (p : Tx) : ∀ l : List Sz.Rg, (∀ r ∈ l, 0 ≤ r.1 ∧ r.1 ≤ r.2 ∧ r.2 ≤ 200) → (((Flt.clauses p l).flatMap (leaf k g)).length : Int) ≤ Sz.wide l
 | [], _ => by simp [Flt.clauses, Sz.wide]
 | r :: l, h => by
  have ih := leaves_len hk g p l (fun x hx => h x (List.mem_cons_of_mem _ hx))
  have h1 := two_one_len hk (h r (List.mem_cons_self ..)) (sizes g p)
  have e : (Flt.clauses p (r :: l)).flatMap (leaf k g) = leaf k g ⟨p, r.1, r.2⟩ ++ (Flt.clauses p l).flatMap (leaf k g) := rfl
  have e2 : (leaf k g ⟨p, r.1, r.2⟩).length = (Sz.two k [r] (sizes g p)).length := by
   unfold leaf Flt.clauses
   rw [List.length_map]
   rfl
  rw [e, List.length_append, e2]
  unfold Sz.wide at ih ⊢
  rw [List.map_cons, List.sum_cons]
  omega
theorem parts_len {k : Nat} (hk : k = 1 ∨ k = 2) (f g : List Cl) : (parts k f g).length ≤ (prefixes f).length * 201 := by
 have : parts k f g = (prefixes f).flatMap fun p => (Flt.clauses p (Flt.piece f p)).flatMap (leaf k g) := by
  unfold parts norm
  rw [List.flatMap_assoc]
 rw [this]
 refine Flt.flat_len _ 201 _ (fun p _ => ?_)
 have h1 := leaves_len hk g p (Flt.piece f p) (fun r hr => Sz.formR_bd _ 0 none (by simp) (fun lo h => by cases h) r hr)
 have h2 := two_wide_le 2 (sizes f p) (sizes (Flt.above f p) p)
 have h3 : Sz.wide (Flt.piece f p) ≤ 201 := h2
 omega
theorem partsTo_len {k : Nat} (hk : k = 1 ∨ k = 2) (f g : List Cl) (n : Nat) : (partsTo k f g n).length ≤ (prefixes f).length * 201 := by
 refine Nat.le_trans ?_ (parts_len hk f g)
 have : parts k f g = partsTo k f g n ++ ((norm f).drop n).flatMap (leaf k g) := by
  unfold parts partsTo
  rw [← List.flatMap_append, List.take_append_drop]
 rw [this, List.length_append]
 omega
theorem leaf_right {k : Nat} {f g : List Cl} {c d : Cl} (hc : c ∈ norm f) (hd : d ∈ leaf k g c) : d.pre = c.pre ∧ 0 ≤ d.lo ∧ d.lo ≤ d.hi ∧ d.hi ≤ 200 := by
 unfold leaf Flt.clauses at hd
 obtain ⟨r, hr, rfl⟩ := List.mem_map.1 hd
 exact ⟨rfl, Sz.formR_bd _ 0 none (by simp) (fun lo h => by cases h) r hr⟩
theorem parts_right {k : Nat} {f g : List Cl} (h : ∀ c ∈ f, Flt.Right c) : ∀ c ∈ parts k f g, Flt.Right c := by
 intro d hd
 obtain ⟨c, hc, hdc⟩ := List.mem_flatMap.1 hd
 have h1 := leaf_right hc hdc
 have h2 := Flt.norm_right h c hc
 exact ⟨by rw [h1.1]; exact h2.1, h1.2⟩
theorem parts_sizes {k : Nat} (f g : List Cl) (p : Tx) (n : Int) : Sz.holds (sizes (parts k f g) p) n = true ↔ (0 ≤ n ∧ n ≤ 200) ∧ ∃ c ∈ norm f, Pth.Covers c.pre p ∧ Sz.pick k (Sz.holds [Flt.rg c] n) (Sz.holds (sizes g c.pre) n) = true := by
 rw [Flt.sizes_holds]
 refine and_congr_right (fun hn => ?_)
 constructor
 ·rintro ⟨d, hd, h1, h2⟩
  obtain ⟨c, hc, hdc⟩ := List.mem_flatMap.1 hd
  unfold leaf Flt.clauses at hdc
  obtain ⟨r, hr, rfl⟩ := List.mem_map.1 hdc
  refine ⟨c, hc, h1, ?_⟩
  rw [← Sz.two_holds k _ _ n hn]
  exact Flt.holds_mem.2 ⟨hn, r, hr, h2⟩
 ·rintro ⟨c, hc, h1, h2⟩
  rw [← Sz.two_holds k _ _ n hn] at h2
  obtain ⟨_, r, hr, h3⟩ := Flt.holds_mem.1 h2
  exact ⟨⟨c.pre, r.1, r.2⟩, List.mem_flatMap.2 ⟨c, hc, List.mem_map.2 ⟨r, hr, rfl⟩⟩, h1, h3⟩
theorem one_holds (c : Cl) (n : Int) : Sz.holds [Flt.rg c] n = true ↔ (0 ≤ n ∧ n ≤ 200) ∧ c.lo ≤ n ∧ n ≤ c.hi := by
 rw [Flt.holds_mem]
 refine and_congr_right (fun _ => ?_)
 constructor
 ·rintro ⟨r, hr, h⟩
  rw [List.mem_singleton.1 hr] at h
  exact h
 ·intro h
  exact ⟨_, List.mem_singleton.2 rfl, h⟩
theorem meet_half {f g : List Cl} {p : Tx} {n : Int} (h : Sz.holds (sizes (parts 1 f g) p) n = true) : Sz.holds (sizes f p) n = true ∧ Sz.holds (sizes g p) n = true := by
 obtain ⟨hn, c, hc, h1, h2⟩ := (parts_sizes f g p n).1 h
 have h2 : (Sz.holds [Flt.rg c] n && Sz.holds (sizes g c.pre) n) = true := h2
 rw [Bool.and_eq_true] at h2
 refine ⟨?_, sizes_up h1 h2.2⟩
 rw [← Flt.norm_alike]
 exact (Flt.sizes_holds _ p n).2 ⟨hn, c, hc, h1, ((one_holds c n).1 h2.1).2⟩
theorem meet_more {f g : List Cl} {p r : Tx} {n : Int} (hr : Pth.Covers r p) (hf : Sz.holds (sizes f p) n = true) (hg : Sz.holds (sizes g r) n = true) (hl : ∀ q, Pth.Covers q p → Sz.holds (sizes f q) n = true → r.length ≤ q.length) : Sz.holds (sizes (parts 1 f g) p) n = true := by
 rw [← Flt.norm_alike] at hf
 obtain ⟨hn, c, hc, h1, h2⟩ := (Flt.sizes_holds _ p n).1 hf
 have h3 : Sz.holds (sizes f c.pre) n = true := by
  rw [← Flt.norm_alike]
  exact (Flt.sizes_holds _ c.pre n).2 ⟨hn, c, hc, Pth.covers_refl _, h2⟩
 have h4 := hl c.pre h1 h3
 refine (parts_sizes f g p n).2 ⟨hn, c, hc, h1, ?_⟩
 show (Sz.holds [Flt.rg c] n && Sz.holds (sizes g c.pre) n) = true
 rw [(one_holds c n).2 ⟨hn, h2⟩, sizes_up (Flt.covers_both hr h1 h4) hg]
 rfl
theorem sizes_app (a b : List Cl) (p : Tx) (n : Int) : Sz.holds (sizes (a ++ b) p) n = (Sz.holds (sizes a p) n || Sz.holds (sizes b p) n) := by
 unfold sizes
 rw [List.filter_append, List.map_append, Sz.holds_append]
theorem meet_is (f g : List Cl) : norm (parts 1 f g ++ parts 1 g f) = two 1 f g := by
 have h2 : two 1 f g = norm (two 1 f g) := by unfold two; rw [Flt.norm_norm]
 rw [h2]
 refine Flt.norm_same (fun p n => ?_)
 rw [meet_sizes, sizes_app, Bool.eq_iff_iff, Bool.or_eq_true, Bool.and_eq_true]
 constructor
 ·rintro (h | h)
  ·exact meet_half h
  ·exact (meet_half h).symm
 ·rintro ⟨hf, hg⟩
  obtain ⟨q, ⟨hq, hqn⟩, hqm⟩ := Flt.least (P := fun q => Pth.Covers q p ∧ Sz.holds (sizes f q) n = true) p.length p (Nat.le_refl _) ⟨Pth.covers_refl _, hf⟩
  obtain ⟨r, ⟨hr, hrn⟩, hrm⟩ := Flt.least (P := fun q => Pth.Covers q p ∧ Sz.holds (sizes g q) n = true) p.length p (Nat.le_refl _) ⟨Pth.covers_refl _, hg⟩
  rcases Nat.le_total q.length r.length with hl | hl
  ·exact Or.inr (meet_more hq hg hqn (fun x h1 h2 => Nat.le_trans hl (hrm x ⟨h1, h2⟩)))
  ·exact Or.inl (meet_more hr hf hrn (fun x h1 h2 => Nat.le_trans hl (hqm x ⟨h1, h2⟩)))
theorem join_is (f g : List Cl) : norm (f ++ g) = two 0 f g := by
 have h2 : two 0 f g = norm (two 0 f g) := by unfold two; rw [Flt.norm_norm]
 rw [h2]
 refine Flt.norm_same (fun p n => ?_)
 rw [join_sizes, sizes_app]
theorem left_subs (f g : List Cl) : left f g = [] ↔ Subs g f := by
 rw [← minus_empty]
 constructor
 ·intro h
  unfold minus
  rw [h]; rfl
 ·intro h
  refine none_empty (fun c hc => ?_) h
  obtain ⟨d, hd, _, hr⟩ := left_mem hc
  exact two_within hr
end Go.Proofs.YtkcgmnhjofoeiaaGreat.Cov
namespace Go.Proofs.YtkcgmnhjofoeiaaGreat
open Go.RowKit
def Cov.Ok (f : List Flt.Cl) : Prop := f.length ≤ 100000 ∧ (∀ c ∈ f, Flt.Right c) ∧ ∀ c ∈ f, Flt.Bd c
structure CoverOk : Prop where
 subs : ∀ {w : World} {F G : Nat → Prop} {u v : Value} {f g : List Flt.Cl}, Cls w F u f → Cls w G v g → Cov.Ok f → Cov.Ok g → Calls Tryz.prog 67 #[u, v] w fun e w' => e = .returned (.bool (decide (Cov.Subs f g))) ∧ Below w.heap.size w w'
 meet : ∀ {w : World} {F G : Nat → Prop} {u v : Value} {f g : List Flt.Cl}, Cls w F u f → Cls w G v g → Cov.Ok f → Cov.Ok g → (Flt.prefixes f).length + (Flt.prefixes g).length ≤ 490 → Calls Tryz.prog 47 #[u, v] w fun e w' => ∃ v', e = .returned v' ∧ Cls w' (NewIn w w') v' (Cov.two 1 f g) ∧ Below w.heap.size w w'
namespace Cov
open Flt (Tx Cl sizes prefixes norm)
theorem nodup_len : ∀ {l m : List Tx}, l.Nodup → (∀ x ∈ l, x ∈ m) → l.length ≤ m.length
 | [], _, _, _ => Nat.zero_le _
 | x :: l, m, hl, h => by
  obtain ⟨h1, h2⟩ := List.nodup_cons.1 hl
  have hx := h x (List.mem_cons_self ..)
  have ih := nodup_len (l := l) (m := m.erase x) h2 (fun y hy => (List.mem_erase_of_ne (fun e => h1 (by rw [← e]; exact hy))).2 (h y (List.mem_cons_of_mem _ hy)))
  rw [List.length_erase_of_mem hx] at ih
  have : 0 < m.length := List.length_pos_of_mem hx
  rw [List.length_cons]
  omega
theorem prefixes_in {X : List Cl} {l : List Tx} (h : ∀ c ∈ X, c.pre ∈ l) : (prefixes X).length ≤ l.length :=
 nodup_len (up_nodup (Flt.prefixes_up X)) (fun x hx => by
  obtain ⟨c, hc, rfl⟩ := (Flt.prefixes_mem X x).1 hx
  exact h c hc)
theorem norm_short (X : List Cl) : (norm X).length ≤ (prefixes X).length * 202 :=
 Flt.flat_len (fun p => Flt.clauses p (Flt.piece X p)) 202 (prefixes X) (fun p _ => by unfold Flt.clauses; rw [List.length_map]; exact Flt.piece_len X p)
theorem norm_prefixes (X : List Cl) : (prefixes (norm X)).length ≤ (prefixes X).length := prefixes_in (fun c hc => by
 obtain ⟨d, hd, e⟩ := Flt.norm_pre hc
 exact (Flt.prefixes_mem X _).2 ⟨d, hd, e⟩)
theorem pre_small {c : Cl} (h : Flt.Right c) : c.pre.length ≤ 40 := by
 rcases h.1 with e | e
 ·rw [e]; exact Nat.zero_le _
 ·exact e.2.1
theorem right_bd {c : Cl} (h : Flt.Right c) : Flt.Bd c := ⟨by have := pre_small h; omega, Flt.right_bd h⟩
theorem Ok.of {f : List Cl} (h : f.length ≤ 100000) (hr : ∀ c ∈ f, Flt.Right c) : Ok f := ⟨h, hr, fun c hc => right_bd (hr c hc)⟩
end Cov
end Go.Proofs.YtkcgmnhjofoeiaaGreat
