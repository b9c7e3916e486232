import Derived.Test.YtkacfmaogiblfaaUom5
import Derived.Test.YtkacfmaogiblfaaUom3
import Derived.Test.YtkacfmaogiblfaaUom4
import Derived.Test.YtkacfmaogiblfaaUom2
import Derived.Lib.Hide
import Derived.OwnWalk
import Derived.Laws.BitsAllLaws
import Derived.Deep.Slices
import Derived.Lib.Strings
import Derived.Laws.IdiomCopy
import Derived.Laws.OwnMore
import Derived.Lib.SlicesCompact
import Derived.Tactics
import Derived.Deep.WholeRow
import Derived.Deep.MidRow
import Derived.Great.BuildSlice
set_option maxRecDepth 100000
set_option linter.all false
set_option maxHeartbeats 12800000
namespace Go.Proofs.Ytkacfmaogiblfaa.Flt
abbrev Tx := List UInt8
structure Cl where
 pre : Tx
 lo : Int
 hi : Int
deriving DecidableEq
def rg (c : Cl) : Sz.Rg := (c.lo, c.hi)
def Right (c : Cl) : Prop := (c.pre = [] ∨ Pth.Right c.pre) ∧ 0 ≤ c.lo ∧ c.lo ≤ c.hi ∧ c.hi ≤ 200
instance (c : Cl) : Decidable (Right c) := inferInstanceAs (Decidable (_ ∧ _))
def sizes (f : List Cl) (p : Tx) : List Sz.Rg := (f.filter fun c => decide (Pth.Covers c.pre p)).map rg
def ins (out : List Tx) (p : Tx) : List Tx := if (out.dropWhile fun q => decide (q < p)).head? = some p then out else out.takeWhile (fun q => decide (q < p)) ++ p :: out.dropWhile fun q => decide (q < p)
def prefixes (f : List Cl) : List Tx := f.foldl (fun out c => ins out c.pre) []
def above (f : List Cl) (p : Tx) : List Cl := f.filter fun c => decide (c.pre ≠ p ∧ Pth.Covers c.pre p)
def piece (f : List Cl) (p : Tx) : List Sz.Rg := Sz.two 2 (sizes f p) (sizes (above f p) p)
def clauses (p : Tx) (l : List Sz.Rg) : List Cl := l.map fun r => ⟨p, r.1, r.2⟩
def norm (f : List Cl) : List Cl := (prefixes f).flatMap fun p => clauses p (piece f p)
theorem tlt_irrefl (a : Tx) : ¬ a < a := List.lt_irrefl a
theorem tlt_trans {a b c : Tx} (h : a < b) (k : b < c) : a < c := List.lt_trans h k
def Up (l : List Tx) : Prop := l.Pairwise (· < ·)
theorem take_lt : ∀ {l : List Tx} {p : Tx}, ∀ q ∈ l.takeWhile (fun q => decide (q < p)), q < p := by
 intro l p
 induction l with
 | nil => intro q hq; cases hq
 | cons x l ih =>
  intro q hq
  by_cases hx : x < p
  ·rw [List.takeWhile_cons_of_pos (by simpa using hx)] at hq
   rcases List.mem_cons.1 hq with e | e
   ·rw [e]; exact hx
   ·exact ih q e
  ·rw [List.takeWhile_cons_of_neg (by simpa using hx)] at hq
   cases hq
theorem drop_ge {l : List Tx} (h : Up l) {p : Tx} : ∀ q ∈ l.dropWhile (fun q => decide (q < p)), ¬ q < p := by
 induction l with
 | nil => intro q hq; cases hq
 | cons x l ih =>
  intro q hq
  have hl := (List.pairwise_cons.1 h)
  by_cases hx : x < p
  ·rw [List.dropWhile_cons_of_pos (by simpa using hx)] at hq
   exact ih hl.2 q hq
  ·rw [List.dropWhile_cons_of_neg (by simpa using hx)] at hq
   rcases List.mem_cons.1 hq with e | e
   ·rw [e]; exact hx
   ·exact fun hh => hx (tlt_trans (hl.1 q e) hh)
theorem up_same : ∀ {l m : List Tx}, Up l → Up m → (∀ x, x ∈ l ↔ x ∈ m) → l = m := by
 intro l m hl hm h
 refine List.Perm.eq_of_pairwise (le := fun a b : Tx => a < b) (fun a b _ _ h1 h2 => absurd (tlt_trans h1 h2) (tlt_irrefl a)) hl hm ?_
 rw [List.perm_ext_iff_of_nodup (hl.imp (fun {a b} hab e => by subst e; exact tlt_irrefl _ hab)) (hm.imp (fun {a b} hab e => by subst e; exact tlt_irrefl _ hab))]
 exact h
end Go.Proofs.Ytkacfmaogiblfaa.Flt
namespace Go.Proofs.Ytkacfmaogiblfaa
open Go.RowKit
def rgV (r : Sz.Rg) : List Value := [.int .i64 r.1, .int .i64 r.2]
abbrev Rgs (w : World) (F : Nat → Prop) (v : Value) (l : List Sz.Rg) : Prop := Rws 2 rgV w F v l
def Bd (r : Sz.Rg) : Prop := -9223372036854775808 ≤ r.1 ∧ r.1 ≤ 9223372036854775807 ∧ -9223372036854775808 ≤ r.2 ∧ r.2 ≤ 9223372036854775807
theorem Rgs.at {w : World} {F : Nat → Prop} {b o : Nat} {n cap : Nat} {l : List Sz.Rg} (h : Rgs w F (.slice (some ⟨b, o, none⟩) n cap) l) {i : Nat} {x : Sz.Rg} (hx : l[i]? = some x) :
  w.cell? ⟨b, o + i * 2, none⟩ = some (.int .i64 x.1) ∧ w.cell? ⟨b, o + i * 2 + 1, none⟩ = some (.int .i64 x.2) := by
 obtain ⟨A, c, e, -, hat⟩ := h
 injection e with e1 e2 e3
 obtain ⟨b', o', e, -, -, hc⟩ := hat (by obtain ⟨hl, _⟩ := List.getElem?_eq_some_iff.1 hx; omega)
 rw [e] at e1
 injection e1 with e1
 injection e1 with e1 e2
 subst e1 e2
 exact ⟨hc i x hx 0 _ rfl, hc i x hx 1 _ rfl⟩
theorem Rgs.slice {w : World} {F : Nat → Prop} {v : Value} {l : List Sz.Rg} (h : Rgs w F v l) : ∃ A cap, v = .slice A l.length cap ∧ l.length ≤ cap := by
 obtain ⟨A, c, e, hc, hat⟩ := h
 exact ⟨A, c, e, hc⟩
open Go.RowKit
theorem Cells.below {w w' : World} {F : Nat → Prop} {v : Value} {us : List Value} (h : Cells w F v us) (k : Below w.heap.size w w') : Cells w' F v us := h.kept (Kept.ofBelow k (fun _ => False)) (fun _ _ h => h)
theorem below_drews' (w : World) (n : Nat) : Below w.heap.size w (w.drewN n) := ⟨rfl, rfl, rfl, Nat.le_refl _, fun _ _ => rfl⟩
theorem strInfo : (Try.prog.info? 9).map (fun i => (i.zero, i.size, i.bytes)) = some (some (.string ⟨#[]⟩), 1, 16) := by kernel_rfl
theorem own_below {w w' : World} {base t size n : Nat} {v : Value} {xs : List Value} (h : w.ownsRow base t size v n xs) (k : Below w.heap.size w w') : w'.ownsRow base t size v n xs :=
 h.kept (Kept.ofBelow k (fun i => i = w.heap.size)).grown (Or.inr (fun e => by have := (h.lt _ e).2; omega))
def TextsOwn (w : World) (out : List (List UInt8)) (v : Value) (wr : World) : Prop := wr.ownsRow w.heap.size 9 1 v out.length (texts out) ∧ Below w.heap.size w wr
theorem texts_start (w : World) : TextsOwn w [] (.slice none 0 0) w := ⟨World.ownsRow_nil _ _ _ _, Below.refl _ _⟩
theorem TextsOwn.below {w w1 w2 : World} {out : List (List UInt8)} {v : Value} (h : TextsOwn w out v w1) (k : Below w1.heap.size w1 w2) : TextsOwn w out v w2 := ⟨own_below h.1 k, h.2.trans (k.mono h.2.size)⟩
theorem texts_more {w wr w2 : World} {out : List (List UInt8)} {v v' : Value} {o : Obj} {x : List UInt8} (h : TextsOwn w out v wr) (hown : w2.ownsRow w.heap.size 9 1 v' (out.length + 1) (texts out ++ [.string (mk x)])) (hg : (wr.alloc o).grownBy w2 v.ownBlock) :
  TextsOwn w (out ++ [x]) v' w2 := by
 obtain ⟨h1, h2⟩ := h
 refine ⟨?_, (h2.alloc h2.size o).grown hg (by have := h2.size; simp; omega) (fun k hk => (h1.lt k hk).1)⟩
 rw [List.length_append]
 simpa [texts] using hown
theorem TextsOwn.cells {w w' : World} {out : List (List UInt8)} {v : Value} (h : TextsOwn w out v w') : Cells w' (NewIn w w') v (texts out) := Cells.ofOwn h.1 (fun _ _ h1 h2 => ⟨h1, h2⟩)
open Go.RowKit
theorem idx (s : ByteArray) (k : Nat) (h : k < s.size) : ∃ c : UInt8, s.data.toList[k]? = some c ∧ ∀ V : World, (Instr.index 9 (.string s) (.int .i64 (k : Int))).run Try.prog V = .ok (.int .u8 (c.toNat : Int)) V := by
 refine ⟨s[k]'h, ?_, fun V => by go_simp⟩
 rw [List.getElem?_eq_getElem (by rw [← Lib.size_eq]; exact h), Array.getElem_toList]
 rfl
open Go.RowKit
structure PathOk : Prop where
 check : ∀ (s : List UInt8) (w : World), s.length ≤ 100000 → Calls Try.prog 79 #[.string (mk s)] w fun e w' => e = .returned (.int .i64 (if Pth.Right s then 0 else 13)) ∧ Below w.heap.size w w'
 names : ∀ (s : List UInt8) (w : World), s.length ≤ 100000 → Calls Try.prog 108 #[.string (mk s)] w fun e w' => ∃ v, e = .returned (.tuple #[v, .int .i64 (if Pth.Right s then 0 else 13)]) ∧ Cells w' (NewIn w w') v (texts (if Pth.Right s then Pth.split s else [])) ∧ Below w.heap.size w w'
open Go.RowKit
def clV (c : Flt.Cl) : List Value := [.string (mk c.pre), .int .i64 c.lo, .int .i64 c.hi]
abbrev Cls (w : World) (F : Nat → Prop) (v : Value) (l : List Flt.Cl) : Prop := Rws 3 clV w F v l
def Flt.Bd (c : Flt.Cl) : Prop := c.pre.length ≤ 100000 ∧ Go.Proofs.Ytkacfmaogiblfaa.Bd (Flt.rg c)
def Flt.first : List Flt.Cl → Int
 | [] => 0
 | c :: l => if c.pre ≠ [] ∧ ¬ Pth.Right c.pre then 13 else if Flt.Right c then Flt.first l else 2
def Flt.check (f : List Flt.Cl) : Int := if 8 < f.length then 4 else Flt.first f
def Flt.hit (p : List UInt8) (size : Int) (dead : Bool) (c : Flt.Cl) : Bool := decide (Pth.Covers c.pre p) && (dead || decide (0 ≤ size ∧ size ≤ 200 ∧ c.lo ≤ size ∧ size ≤ c.hi))
def Flt.hits (f : List Flt.Cl) (p : List UInt8) (size : Int) (dead : Bool) : Bool := f.any (Flt.hit p size dead)
def Flt.whole : List Flt.Cl := [⟨[], 0, 200⟩]
structure FilterOk : Prop where
 check : ∀ {w : World} {F : Nat → Prop} {v : Value} {f : List Flt.Cl}, Cls w F v f → f.length ≤ 100000 → (∀ c ∈ f, Flt.Bd c) → Calls Try.prog 121 #[v] w fun e w' => e = .returned (.int .i64 (Flt.check f)) ∧ Below w.heap.size w w'
theorem Cls.at {w : World} {F : Nat → Prop} {b o : Nat} {n cap : Nat} {l : List Flt.Cl} (h : Cls w F (.slice (some ⟨b, o, none⟩) n cap) l) {i : Nat} {x : Flt.Cl} (hx : l[i]? = some x) :
  w.cell? ⟨b, o + i * 3, none⟩ = some (.string (mk x.pre)) ∧ w.cell? ⟨b, o + i * 3 + 1, none⟩ = some (.int .i64 x.lo) ∧ w.cell? ⟨b, o + i * 3 + 2, none⟩ = some (.int .i64 x.hi) := by
 obtain ⟨A, c, e, -, hat⟩ := h
 injection e with e1 e2 e3
 obtain ⟨b', o', e, -, -, hc⟩ := hat (by obtain ⟨hl, _⟩ := List.getElem?_eq_some_iff.1 hx; omega)
 rw [e] at e1
 injection e1 with e1
 injection e1 with e1 e2
 subst e1 e2
 exact ⟨hc i x hx 0 _ rfl, hc i x hx 1 _ rfl, hc i x hx 2 _ rfl⟩
end Go.Proofs.Ytkacfmaogiblfaa
namespace Go.Proofs.Ytkacfmaogiblfaa.Pck
def cl (c : Flt.Cl) : List UInt8 := txt c.pre ++ (num c.lo ++ num c.hi)
def OkFlt (f : List Flt.Cl) : Prop := f.length ≤ 64 ∧ ∀ c ∈ f, Flt.Right c
instance (f : List Flt.Cl) : Decidable (OkFlt f) := inferInstanceAs (Decidable (_ ∧ _))
end Go.Proofs.Ytkacfmaogiblfaa.Pck
namespace Go.Proofs.Ytkacfmaogiblfaa
open Go.RowKit
def Near (w : World) (v v' : Value) : Prop := v'.ownBlock = v.ownBlock ∨ ∀ g, v'.ownBlock = some g → w.heap.size ≤ g
theorem Near.refl (w : World) (v : Value) : Near w v v := Or.inl rfl
theorem Near.apart {w w' : World} {u v v' : Value} {base t size n : Nat} {xs : List Value} (h : Near w' v v') (ha : ∀ g, u.ownBlock = some g → v.ownBlock ≠ some g) (hu : w.ownsRow base t size u n xs) (hs : w.heap.size ≤ w'.heap.size) : ∀ g, u.ownBlock = some g → v'.ownBlock ≠ some g := by
 intro g hg e
 rcases h with h | h
 ·exact ha g hg (h ▸ e)
 ·have := (hu.lt g hg).2
  have := h g e
  omega
section
variable {P : Program} {α : Type} {k : Nat} {f : α → List Value}
theorem append_near {w : World} (base : Nat) (t ty e : TypeId) (i : TypeInfo) (z : Value) (size bytes : Nat) (ht : P.underlying t = some (.slice e)) (hi : P.info? e = some i) (hz : i.zero = some z)
    (hsize : i.size = size) (hby : i.bytes = bytes) (hzs : z.cells.size = size) (hsz : 0 < size) {v : Value} {n : Nat} {xs : List Value} (hown : w.ownsRow base e size v n xs)
    (a : Addr) (m c : Nat) (news : List Value) (hl : news.length = m * size) (hnews : ∀ j u, news[j]? = some u → w.cell? (a.add j) = some u) (h1 : ∀ u ∈ news, u.oneCell' = true)
    (h63 : n + m ≤ maxLen) (hbytes : (n + m) * bytes ≤ 140737488355328) {v' : Value} {w' : World} (hr : (Builtin.append_ #[t, t] ty #[v, .slice (some a) m c]).run P w = .ok v' w') : Near w v v' := by
  have hsmall : n + m ≤ 9223372036854775807 := by simp only [maxLen] at h63; omega
  rcases hown.2 with ⟨rfl, rfl⟩ | ⟨g, cap, cur, rfl, hbg, hg, hnc, hcm, hcs, htake⟩
  · obtain ⟨v2, w2, r1, r2, -, -⟩ := run_append_own w w.heap.size t ty e i z size bytes ht hi hz hsize hby hzs hsz (.slice none 0 0) 0 [] (World.ownsRow_nil _ _ _ _) a m c news hl hnews h1 h63 hbytes (Nat.le_refl _)
    rw [hr] at r1
    injection r1 with e1 e2
    subst e1
    exact Or.inr (fun g hg => (r2.lt g hg).1)
  · subst hsize
    subst hby
    by_cases hroom : n + m ≤ cap
    · have hfit : n * i.size + news.length ≤ cur.size := by rw [hl, hcs, ← Nat.add_mul]; exact Nat.mul_le_mul_right _ hroom
      have r1 := run_append_room (P := P) w t ty e i ht hi g n cap cur hg a m c news hl hnews h1 hroom hfit
      rw [hr] at r1
      injection r1 with e1 e2
      subst e1
      exact Or.inl rfl
    · have r1 := run_append_grow (P := P) w t ty e i z ht hi hz ⟨g, 0, none⟩ n cap xs hown.1 (hown.cells (g := g) rfl) a m c news hl hnews (by omega) (by omega) (growslice_fits (by omega) hbytes)
      rw [hr] at r1
      injection r1 with e1 e2
      subst e1
      exact Or.inr (fun g' hg' => by have : w.heap.size = g' := by simpa [Value.ownBlock] using hg'
                                     omega)
theorem join_near {w : World} (base : Nat) (t ty e : TypeId) (i : TypeInfo) (z : Value) (bytes : Nat) (ht : P.underlying t = some (.slice e)) (hi : P.info? e = some i) (hz : i.zero = some z) (hsize : i.size = k) (hby : i.bytes = bytes) (hzs : z.cells.size = k) (hsz : 0 < k)
  {v xv : Value} {n : Nat} {xs : List Value} {F : Nat → Prop} {l : List α} (hown : w.ownsRow base e k v n xs) (hx : Rws k f w F xv l) (hk : ∀ x ∈ l, (f x).length = k) (h1 : ∀ x ∈ l, ∀ u ∈ f x, u.oneCell' = true)
  (h63 : n + l.length ≤ maxLen) (hbytes : (n + l.length) * bytes ≤ 140737488355328) (hbase : base ≤ w.heap.size) :
  ∃ v' w', (Builtin.append_ #[t, t] ty #[v, xv]).run P w = .ok v' w' ∧ w'.ownsRow base e k v' (n + l.length) (xs ++ l.flatMap f) ∧ w.grownBy w' v.ownBlock ∧ Near w v v' := by
 obtain ⟨v', w', r1, r2, r3⟩ := join_rows (P := P) base t ty e i z bytes ht hi hz hsize hby hzs hsz hown hx hk h1 h63 hbytes hbase
 refine ⟨v', w', r1, r2, r3, ?_⟩
 obtain ⟨A, c, rfl, hc, hat⟩ := hx
 have hone : ∀ u ∈ l.flatMap f, u.oneCell' = true := by
  intro u hu
  obtain ⟨x, hx, hu⟩ := List.mem_flatMap.1 hu
  exact h1 x hx u hu
 have hgo : ∀ ad : Addr, A = some ad → (∀ j u, (l.flatMap f)[j]? = some u → w.cell? (ad.add j) = some u) → Near w v v' := by
  rintro ad rfl hnews
  exact append_near base t ty e i z k bytes ht hi hz hsize hby hzs hsz hown ad l.length c (l.flatMap f) (rows_len l hk) hnews hone h63 hbytes r1
 by_cases h0 : 0 < l.length
 ·obtain ⟨b, o, rfl, -, hbl, hcell⟩ := hat h0
  refine hgo _ rfl (fun j u hu => ?_)
  obtain ⟨m, x, r, e1, e2, rfl⟩ := rows_of l hk j u hu
  rw [Go.WideShapes.add_plain, ← Nat.add_assoc]
  exact hcell m x e1 r u e2
 ·have hl : l = [] := List.eq_nil_of_length_eq_zero (by omega)
  subst hl
  cases A with
  | none =>
   have r4 := join_nothing (P := P) base t ty e i k c ht hi v n xs hown
   rw [show ([] : List α).length = 0 from rfl, r4] at r1
   injection r1 with e1 e2
   exact Or.inl (by rw [e1])
  | some ad => exact hgo ad rfl (fun j u hu => by simp at hu)
theorem wp_joins {ops : Array Oper} {rest : List Oper} {o : Oper} {a : Act} {w : World} {Q : Exit → Act → World → Prop} (hgd : o.guard = none) (s x : Operand) (t : TypeId)
  (ho : o.op = .call { callee := .builtin .append, args := #[s, x], argTypes := #[t, t] }) (base : Nat) (e : TypeId) (i : TypeInfo) (z : Value) (bytes : Nat) (ht : P.underlying t = some (.slice e)) (hi : P.info? e = some i) (hz : i.zero = some z)
  (hsize : i.size = k) (hby : i.bytes = bytes) (hzs : z.cells.size = k) (hsz : 0 < k) {v xv : Value} {n : Nat} {xs : List Value} {F : Nat → Prop} {l : List α} (hs : a.eval s = v) (hx : a.eval x = xv)
  (hown : w.ownsRow base e k v n xs) (hr : Rws k f w F xv l) (hk : ∀ x ∈ l, (f x).length = k) (h1 : ∀ x ∈ l, ∀ u ∈ f x, u.oneCell' = true) (h63 : n + l.length ≤ maxLen) (hbytes : (n + l.length) * bytes ≤ 140737488355328) (hbase : base ≤ w.heap.size)
  (h : ∀ v' w', w'.ownsRow base e k v' (n + l.length) (xs ++ l.flatMap f) → w.grownBy w' v.ownBlock → Near w v v' → wpList P ops Q rest (a.put o.dst v') w') : wpList P ops Q (o :: rest) a w :=
 wpList_plain hgd fun _ hK => by
  obtain ⟨v', w', r1, r2, r3, r4⟩ := join_near (P := P) base t o.type e i z bytes ht hi hz hsize hby hzs hsz hown hr hk h1 h63 hbytes hbase
  unfold Oper.wp execOp
  simp only [ho, resolve, invoke, builtin, Sem.run_bind, Sem.run_pure, Result.andThen_ok, List.map_toArray, List.map_cons, List.map_nil, hs, hx, r1]
  exact hK _ _ (h v' w' r2 r3 r4)
theorem step_near {ops : Array Oper} {o : Oper} {a : Act} {w : World} {K : Act → World → Prop} {Q : Exit → Act → World → Prop} {E : Prop} (hgd : o.guard = none) (s x : Operand) (t : TypeId)
  (ho : o.op = .call { callee := .builtin .append, args := #[s, x], argTypes := #[t, t] }) (base : Nat) (e : TypeId) (i : TypeInfo) (z : Value) (bytes : Nat) (ht : P.underlying t = some (.slice e)) (hi : P.info? e = some i) (hz : i.zero = some z)
  (hsize : i.size = k) (hby : i.bytes = bytes) (hzs : z.cells.size = k) (hsz : 0 < k) {v xv : Value} {n : Nat} {xs : List Value} {F : Nat → Prop} {l : List α} (hs : a.eval s = v) (hx : a.eval x = xv)
  (hown : w.ownsRow base e k v n xs) (hr : Rws k f w F xv l) (hk : ∀ x ∈ l, (f x).length = k) (h1 : ∀ x ∈ l, ∀ u ∈ f x, u.oneCell' = true) (h63 : n + l.length ≤ maxLen) (hbytes : (n + l.length) * bytes ≤ 140737488355328) (hbase : base ≤ w.heap.size)
  (h : ∀ v' w', w'.ownsRow base e k v' (n + l.length) (xs ++ l.flatMap f) → w.grownBy w' v.ownBlock → Near w v v' → K (a.put o.dst v') w') :
  if Region.wanted o (yielded ops a.tmps) = true then Oper.wp P o a w K Q else E := by
 rw [if_pos (by simp [Region.wanted, hgd])]
 obtain ⟨v', w', r1, r2, r3, r4⟩ := join_near (P := P) base t o.type e i z bytes ht hi hz hsize hby hzs hsz hown hr hk h1 h63 hbytes hbase
 unfold Oper.wp execOp
 simp only [ho, resolve, invoke, builtin, Sem.run_bind, Sem.run_pure, Result.andThen_ok, List.map_toArray, List.map_cons, List.map_nil, hs, hx, r1]
 exact h v' w' r2 r3 r4
end
theorem own_left {w w' : World} {base t size n : Nat} {v : Value} {xs : List Value} {r : Option Nat} (h : w.ownsRow base t size v n xs) (hg : w.grownBy w' r) (hne : ∀ g, v.ownBlock = some g → r ≠ some g) : w'.ownsRow base t size v n xs := by
 refine ⟨h.1, ?_⟩
 rcases h.2 with h2 | ⟨g, cap, cur, rfl, hb, hgb, rest⟩
 ·exact .inl h2
 ·have hlt := (h.lt g rfl).2
  exact .inr ⟨g, cap, cur, rfl, hb, (hg.block g hlt (fun e => hne g rfl e.symm)).trans hgb, rest⟩
open Go.RowKit
section
variable {w : World} {base e size n cap g : Nat} {xs : List Value}
theorem own_front (h : w.ownsRow base e size (.slice (some ⟨g, 0, none⟩) n cap) n xs) {m : Nat} (hm : m ≤ n) : w.ownsRow base e size (.slice (some ⟨g, 0, none⟩) m cap) m (xs.take (m * size)) := by
 have hle : m * size ≤ n * size := Nat.mul_le_mul_right _ hm
 refine ⟨by rw [List.length_take, h.1]; omega, ?_⟩
 rcases h.2 with ⟨h', _⟩ | ⟨g', cap', cur, h', hb, hg, hnc, hcm, hcs, htake⟩
 ·simp at h'
 ·simp only [Value.slice.injEq, Option.some.injEq, Addr.mk.injEq, and_true, true_and] at h'
  obtain ⟨rfl, rfl⟩ := h'
  refine .inr ⟨g, cap, cur, rfl, hb, hg, Nat.le_trans hm hnc, hcm, hcs, ?_⟩
  rw [← htake, List.take_take, Nat.min_eq_left hle]
theorem own_beyond (h : w.ownsRow base e size (.slice (some ⟨g, 0, none⟩) n cap) n xs) {j : Nat} (hj : n * size ≤ j) (u : Value) :
  (w.setCell ⟨g, j, none⟩ u).ownsRow base e size (.slice (some ⟨g, 0, none⟩) n cap) n xs ∧ w.grownBy (w.setCell ⟨g, j, none⟩ u) (some g) := by
 have := h.stored j u
 rw [List.set_eq_of_length_le (by rw [h.1]; exact hj)] at this
 exact this
theorem own_beyonds : ∀ (vs : List Value) (j : Nat) (w : World), w.ownsRow base e size (.slice (some ⟨g, 0, none⟩) n cap) n xs → n * size ≤ j →
  (w.setCells g j vs).ownsRow base e size (.slice (some ⟨g, 0, none⟩) n cap) n xs ∧ w.grownBy (w.setCells g j vs) (some g)
 | [], j, w, h, _ => ⟨h, gb_refl _ _⟩
 | v :: vs, j, w, h, hj => by
  obtain ⟨h1, h2⟩ := own_beyond h hj v
  obtain ⟨h3, h4⟩ := own_beyonds vs (j + 1) _ h1 (by omega)
  exact ⟨h3, gb_trans h2 h4⟩
theorem own_clear {P : Program} {t : TypeId} {z : Value} (h : w.ownsRow base e size (.slice (some ⟨g, 0, none⟩) n cap) n xs) {m : Nat} (hm : m < n) (ht : P.underlying t = some (.slice e)) (hv : ∀ w, (zeroValue e).run P w = .ok z w) (hz : z.cells.size = size) (h1 : ∀ u ∈ z.cells.toList, u.oneCell' = true) (c : Nat) :
  ∃ w', (∀ ty, (Builtin.clear_ #[t] ty #[.slice (some ⟨g, m * size, none⟩) (n - m) c]).run P w = .ok (.tuple #[]) w') ∧ w'.ownsRow base e size (.slice (some ⟨g, 0, none⟩) m cap) m (xs.take (m * size)) ∧ w.grownBy w' (some g) := by
 have hlen : (Builtin.zeroCells z.cells (n - m)).toList.length = (n - m) * size := by simp [Builtin.zeroCells, hz]
 have hrow : m * size + (n - m) * size = n * size := by rw [← Nat.add_mul]; congr 1; omega
 have hone : ∀ u ∈ (Builtin.zeroCells z.cells (n - m)).toList, u.oneCell' = true := by
  intro u hu
  unfold Builtin.zeroCells at hu
  rw [Array.toList_map, List.mem_map] at hu
  obtain ⟨i, hi, rfl⟩ := hu
  have hi : i < (n - m) * z.cells.size := by simpa using hi
  have hpos : 0 < z.cells.size := by
   rcases Nat.eq_zero_or_pos z.cells.size with h0 | h0
   ·rw [h0] at hi; omega
   ·exact h0
  have hlt : i % z.cells.size < z.cells.size := Nat.mod_lt _ hpos
  refine h1 _ ?_
  rw [getElem!_pos z.cells _ hlt]
  exact Array.getElem_mem_toList _
 have hst := run_storeCells_cells (P := P) g (m * size) (Builtin.zeroCells z.cells (n - m)).toList 0 w (fun j hj => by
   rw [hlen] at hj
   rw [Nat.add_zero, h.cellAt (m * size + j) (by omega)]
   have : m * size + j < xs.length := by rw [h.1]; omega
   simp [this]) (fun j _ => h.frozenAt _) hone
 rw [Nat.add_zero] at hst
 obtain ⟨r1, r2⟩ := own_beyonds (Builtin.zeroCells z.cells (n - m)).toList (m * size) w (own_front h (Nat.le_of_lt hm)) (Nat.le_refl _)
 refine ⟨_, fun ty => ?_, r1, r2⟩
 obtain ⟨k, hk⟩ : ∃ k, n - m = k + 1 := ⟨n - m - 1, by omega⟩
 rw [hk] at hst ⊢
 simp [Builtin.clear_, run_underlying ht, hv, hst]
end
theorem getI_of {α : Type} [Inhabited α] {l : List α} {i : Nat} {x : α} (h : l[i]? = some x) : l.toArray[i]! = x := by
 obtain ⟨hl, e⟩ := List.getElem?_eq_some_iff.1 h
 rw [getElem!_pos l.toArray i (by simpa using hl)]
 simpa using e
theorem getI_to {α : Type} [Inhabited α] (d : Array α) {i : Nat} (h : i < d.size) : d.toList[i]? = some d[i]! := by
 rw [Array.getElem?_toList, Array.getElem?_eq_getElem h, getElem!_pos d i h]
open Go.RowKit
structure Lies (ty : TypeId) (w : World) (b o : Nat) (cs : List Value) : Prop where
 at_ : w.rangeAt b o cs
 row : ∃ d, Try.prog.underlying ty = some d ∧ d.isRow = true
 size : (Try.prog.info? ty).map (·.size) = some cs.length
section
variable {w w' : World} {b o : Nat} {cs : List Value} {ty : TypeId}
theorem Lies.run (h : Lies ty w b o cs) : (Instr.loadAt ty (.pointer (some ⟨b, o, none⟩))).run Try.prog w = .ok (.agg cs.toArray) w := by
 obtain ⟨d, hu, hd⟩ := h.row
 simp only [Instr.loadAt, Instr.sureAddr, Sem.run_bind, Sem.run_pure, Result.andThen_ok, run_loadVar_mid w b o ty cs d h.at_ hu hd h.size]
theorem wpList_mload {ops : Array Oper} {rest : List Oper} {op : Oper} {a : Act} {Q : Exit → Act → World → Prop} (hw : Region.wanted op (yielded ops a.tmps) = true) (x : Operand) (ho : op.op = .load ty x) (hx : a.eval x = .pointer (some ⟨b, o, none⟩)) (h : Lies ty w b o cs)
  (k : wpList Try.prog ops Q rest (a.put op.dst (.agg cs.toArray)) w) : wpList Try.prog ops Q (op :: rest) a w := by
 unfold wpList
 rw [if_pos hw]
 refine Or.inl ?_
 have hl := h.run
 unfold Oper.wp execOp
 simp only [ho, hx, Sem.run_bind, hl, Result.andThen_ok]
 exact k
theorem exec_mload {f : Operand → Value} {op : Oper} {x : Operand} (ho : op.op = .load ty x) (hx : f x = .pointer (some ⟨b, o, none⟩)) (h : Lies ty w b o cs) : (execOp f op).run Try.prog w = .ok (.value (.agg cs.toArray)) w := by
 have hl := h.run
 unfold execOp
 simp only [ho, hx, Sem.run_bind, hl, Result.andThen_ok]
 rfl
theorem wq_mload {ops : Array Oper} {rest : List Oper} {op : Oper} {a : Act} {C : World → Prop} {Q : Act → Prop} (hw : Region.wanted op (yielded ops a.tmps) = true) (x : Operand) (ho : op.op = .load ty x) (hx : a.eval x = .pointer (some ⟨b, o, none⟩)) (h : ∀ w, C w → Lies ty w b o cs)
  (k : WQ Try.prog ops C Q rest (a.put op.dst (.agg cs.toArray))) : WQ Try.prog ops C Q (op :: rest) a :=
 wq_take hw (fun w hC => exec_mload ho hx (h w hC)) k
theorem Lies.below {B : Nat} (h : Lies ty w b o cs) (hb : Below B w w') (hB : b < B) : Lies ty w' b o cs := ⟨fun j v hv => (hb.cell (p := ⟨b, o + j, none⟩) hB).trans (h.at_ j v hv), h.row, h.size⟩
theorem row_store {old : Array Value} {t : TypeId} (hrow : Row w b t old) (hi : (Try.prog.info? ty).map (·.size) = some cs.length) (hs : old.size = cs.length) (h1 : ∀ u ∈ cs, u.oneCell' = true) : (Instr.storeAt ty (.pointer (some ⟨b, 0, none⟩)) (.agg cs.toArray)).run Try.prog w = .ok () (w.setRow b cs.toArray) := by
 simp only [Instr.storeAt, Instr.sureAddr, Sem.run_bind, Sem.run_pure, Result.andThen_ok]
 exact run_storeVar_row (P := Try.prog) _ b t ty old cs.toArray hrow (by simpa using hi) (by simpa using hs) (all_oneCell_toArray h1)
theorem row_set {old cs : Array Value} {t : TypeId} (hrow : Row w b t old) : Row (w.setRow b cs) b t cs := setRow_heap w b old cs t (0, 0) hrow
end
section
variable {w : World} {b o : Nat} {F : Nat → Prop}
theorem range_row {t : TypeId} {cs : List Value} (h : Row w b t cs.toArray) : w.rangeAt b 0 cs := fun j u hu => by
 rw [Nat.zero_add, h.at, List.getElem?_toArray]; exact hu
end
theorem Kept.setRowK (w : World) (b : Nat) (cs : Array Value) : Kept (fun i => i = b) w (w.setRow b cs) :=
 ⟨rfl, rfl, rfl, by show w.heap.size ≤ (w.heap.modify b _).size; simp, fun k _ hn => by
  show (w.heap.modify b _)[k]? = _
  rw [Array.getElem?_modify, if_neg (fun e => hn e.symm)]⟩
section
variable {ops : Array Oper} {o : Oper} {a : Act} {w : World} {K : Act → World → Prop} {Q : Exit → Act → World → Prop} {E : Prop}
end
theorem wpList_rstore {ops : Array Oper} {rest : List Oper} {op : Oper} {a : Act} {w : World} {Q : Exit → Act → World → Prop} {ty t : TypeId} {b : Nat} {old : Array Value} {cs : List Value} (hw : Region.wanted op (yielded ops a.tmps) = true) (x y : Operand) (ho : op.op = .store ty x y) (hx : a.eval x = .pointer (some ⟨b, 0, none⟩)) (hy : a.eval y = .agg cs.toArray)
  (hrow : Row w b t old) (hi : (Try.prog.info? ty).map (·.size) = some cs.length) (hs : old.size = cs.length) (h1 : ∀ u ∈ cs, u.oneCell' = true)
  (k : ∀ w', Row w' b t cs.toArray → Kept (fun i => i = b) w w' → wpList Try.prog ops Q rest (a.put op.dst undef) w') : wpList Try.prog ops Q (op :: rest) a w := by
 unfold wpList
 rw [if_pos hw]
 refine Or.inl ?_
 have hl := row_store (ty := ty) hrow hi hs h1
 unfold Oper.wp execOp
 simp only [ho, hx, hy, Sem.run_bind, hl, Result.andThen_ok]
 exact k _ (row_set hrow) (Kept.setRowK _ _ _)
theorem rows_made {α : Type} {k : Nat} {f : α → List Value} (w : World) (t : TypeId) (r : α) : Rws k f (w.alloc (.cells (f r).toArray t)) (NewIn w (w.alloc (.cells (f r).toArray t))) (.slice (some ⟨w.heap.size, 0, none⟩) 1 1) [r] := by
 refine ⟨_, 1, rfl, Nat.le_refl _, fun _ => ⟨w.heap.size, 0, rfl, ⟨Nat.le_refl _, by simp⟩, by simp, fun i x hx j u hu => ?_⟩⟩
 have hi : i = 0 := by obtain ⟨h, _⟩ := List.getElem?_eq_some_iff.1 hx; simpa using h
 subst hi
 have e : x = r := by simpa using hx.symm
 subst e
 have := range_row (Row.made w t (f x).toArray) j u hu
 rw [Nat.zero_add] at this
 simpa using this
def setAt (xs : List Value) (o : Nat) : List Value → List Value
 | [] => xs
 | v :: r => setAt (xs.set o v) (o + 1) r
theorem setAt_mid (A B : List Value) : ∀ (us C : List Value) (j : Nat), j + us.length ≤ C.length → setAt (A ++ C ++ B) (A.length + j) us = A ++ setAt C j us ++ B
 | [], _, _, _ => rfl
 | v :: r, C, j, h => by
  have h : j + (r.length + 1) ≤ C.length := h
  show setAt ((A ++ C ++ B).set (A.length + j) v) (A.length + j + 1) r = A ++ setAt (C.set j v) (j + 1) r ++ B
  rw [List.append_assoc, List.set_append_right _ _ (by omega), show A.length + j - A.length = j by omega, List.set_append_left _ _ (by omega), ← List.append_assoc, Nat.add_assoc]
  exact setAt_mid A B r (C.set j v) (j + 1) (by rw [List.length_set]; omega)
section
variable {α : Type} {f : α → List Value} {k : Nat}
theorem kn_flat_at {l : List α} (hk : ∀ x ∈ l, (f x).length = k) {i : Nat} {x : α} (hx : l[i]? = some x) : l.flatMap f = (l.take i).flatMap f ++ f x ++ (l.drop (i + 1)).flatMap f ∧ ((l.take i).flatMap f).length = i * k := by
 obtain ⟨h, e⟩ := List.getElem?_eq_some_iff.1 hx
 constructor
 ·have e2 : l = l.take i ++ x :: l.drop (i + 1) := by rw [← e, List.getElem_cons_drop, List.take_append_drop]
  conv => lhs; rw [e2]
  rw [List.flatMap_append, List.flatMap_cons, List.append_assoc]
 ·rw [rows_len (k := k) (f := f) _ (fun y hy => hk y (List.mem_of_mem_take hy)), List.length_take, Nat.min_eq_left (by omega)]
theorem kn_flat_set {l : List α} (hk : ∀ x ∈ l, (f x).length = k) {i : Nat} {x y : α} (hx : l[i]? = some x) (j : Nat) (us : List Value) (hj : j + us.length ≤ k) (hy : setAt (f x) j us = f y) : setAt (l.flatMap f) (i * k + j) us = (l.set i y).flatMap f := by
 obtain ⟨e1, e2⟩ := kn_flat_at hk hx
 obtain ⟨h, _⟩ := List.getElem?_eq_some_iff.1 hx
 rw [e1, ← e2, setAt_mid _ _ us (f x) j (by rw [hk x (List.mem_of_getElem? hx)]; exact hj), hy, List.set_eq_take_append_cons_drop, if_pos h, List.flatMap_append, List.flatMap_cons, List.append_assoc]
theorem own_setCells {base e size n g cap : Nat} : ∀ (us : List Value) {w : World} {xs : List Value} (j : Nat), w.ownsRow base e size (.slice (some ⟨g, 0, none⟩) n cap) n xs → (w.setCells g j us).ownsRow base e size (.slice (some ⟨g, 0, none⟩) n cap) n (setAt xs j us) ∧ w.grownBy (w.setCells g j us) (some g)
 | [], w, xs, j, h => ⟨h, rfl, rfl, rfl, Nat.le_refl _, fun _ _ _ => rfl⟩
 | u :: us, w, xs, j, h => by
  obtain ⟨h1, h2⟩ := h.stored j u
  obtain ⟨h3, h4⟩ := own_setCells us (j + 1) h1
  exact ⟨h3, gb_trans h2 h4⟩
theorem RowsOwn.putCells {t : TypeId} {w W : World} {l : List α} {g n cap : Nat} (h : RowsOwn t k f w l (.slice (some ⟨g, 0, none⟩) n cap) W) (hn : l.length = n) (hk : ∀ x ∈ l, (f x).length = k) {i : Nat} {x y : α} (hx : l[i]? = some x) (j : Nat) (us : List Value) (hj : j + us.length ≤ k) (hy : setAt (f x) j us = f y) :
  RowsOwn t k f w (l.set i y) (.slice (some ⟨g, 0, none⟩) n cap) (W.setCells g (i * k + j) us) ∧ W.grownBy (W.setCells g (i * k + j) us) (some g) := by
 subst hn
 obtain ⟨h1, h2⟩ := own_setCells us (i * k + j) h.1
 rw [kn_flat_set hk hx j us hj hy] at h1
 refine ⟨⟨by rw [List.length_set]; exact h1, h.2.grown h2 h.2.size (fun m hm => ?_)⟩, h2⟩
 injection hm with hm
 rw [← hm]
 exact (h.1.lt g rfl).1
end
open Go.RowKit Go.Sort
theorem pck_layVer {id : FuncId} (L : Lays id) {w : World} {c : Nat} {ok : Bool} (x : Ver.V) (hx : Pck.NnV x) (hE : ErrAt w c ok) :
  Calls Try.prog 54 #[.func (.func id) #[] #[.pointer (some ⟨c, 0, none⟩)], verA x] w (PutTo w c ok (Pck.ver x)) := by
 obtain ⟨a, b⟩ := x
 have hcf := run_callFunc_own L.there
 have hcw : c < w.heap.size := Row.inHeap hE
 have FO : ∀ f ∈ [flN a, flN b], FlOk f := by
  intro f hf
  simp only [List.mem_cons, List.not_mem_nil, or_false] at hf
  rcases hf with rfl | rfl
  ·exact flN_ok hx.1.1 hx.1.2
  ·exact flN_ok hx.2.1 hx.2.2
 have AB : allBytes [flN a, flN b] = Pck.ver ⟨a, b⟩ := by simp only [allBytes, List.flatMap_cons, List.flatMap_nil, List.append_nil, flN_all, flT_all]; rfl
 have LY : Hid (∀ (W : World) (bk : Nat), ErrAt W c ok → FieldsAt W bk 0 [flN a, flN b] → bk < W.heap.size → Calls Try.prog id #[.slice (some ⟨bk, 0, none⟩) 2 2, .pointer (some ⟨c, 0, none⟩)] W (PutTo W c ok (Pck.ver ⟨a, b⟩))) := Lib.hid (fun W bk h1 h2 h3 => by have := L.lays (cap := 2) h1 h2 h3 (by simp) FO; rwa [AB] at this)
 dsimp only [verA]
 have hbox := Row.made w 23 #[.int .i64 a, .int .i64 b]
 have HX : Hid (∀ W : World, (w.alloc (.cells #[.int .i64 a, .int .i64 b] 23)).grownBy W (some c) → Row W w.heap.size 23 #[.int .i64 a, .int .i64 b]) := Lib.hid (fun W hW => hbox.grown hW (fun e => by injection e with e; omega))
 have E0 : Hid (ErrAt (w.alloc (.cells #[.int .i64 a, .int .i64 b] 23)).drew c ok) := Lib.hid (hE.new _)
 have G0 : Hid (w.grownBy (w.alloc (.cells #[.int .i64 a, .int .i64 b] 23)) (some c)) := Lib.hid (gb_new (gb_refl _ _) _)
 clear hE FO AB hbox hcw hx L
 go_enter Try.func54, Try.ntmps54
 go_wp2_with fail
 refine wp_region_held_drew (S := (fun w' : World => (w.alloc (.cells #[.int .i64 a, .int .i64 b] 23)).grownBy w' (some c))) (by kernel_rfl) (gb_draw (gb_refl _ _)) (fun hHeld => ?_)
 refine wpAnyH_td (i := 0) rfl ?_
 simp only [zz]
 refine wpAnyH_td (i := 1) rfl ?_
 simp only [zz]
 refine wpAnyH_tk (i := 2) (v := ?_) rfl (Or.inl ⟨by rfl, (by intro w hSw; have c0 := (HX.out _ hSw).at 0; go_simp; try with_reducible rfl)⟩) (by assumption) ?_
 simp only [zz]
 refine wpAnyH_td (i := 4) rfl ?_
 simp only [zz]
 refine wpAnyH_tk (i := 5) (v := ?_) rfl (Or.inl ⟨by rfl, (by intro w hSw; have c1 := (HX.out _ hSw).at 1; go_simp; try with_reducible rfl)⟩) (by assumption) ?_
 simp only [zz]
 refine wpAnyH_ready (rs := [3]) (by kernel_rfl) (by simp) ?_
 refine AllReadyH.cons rfl (fun K hK => ?_) AllReadyH.nil
 go_simp
 go_at_call 80
 refine (field_n _ _).mono ?_
 rintro e w3 ⟨rfl, hb⟩
 have E3 := Lib.hid (E0.out.below hb)
 refine hK.out _ _ (gb_trans hHeld (gb_below hb _)) (fun hHeld => ?_)
 clear hb
 clear hK K
 refine wpAnyH_ready (rs := [6]) (by kernel_rfl) (by simp) ?_
 refine AllReadyH.cons rfl (fun K hK => ?_) AllReadyH.nil
 go_simp
 go_at_call 80
 refine (field_n _ _).mono ?_
 rintro e w6 ⟨rfl, hb⟩
 have E6 := Lib.hid (E3.out.below hb)
 refine hK.out _ _ (gb_trans hHeld (gb_below hb _)) (fun hHeld => ?_)
 clear hb
 clear hK K
 refine wpAnyH_ready (rs := [7]) (by kernel_rfl) (by simp) ?_
 refine AllReadyH.cons rfl (fun K hK => ?_) AllReadyH.nil
 go_simp
 have E7 : Hid (ErrAt (w6.alloc (.cells #[.int .i64 a, .string ⟨#[]⟩, .bool false, .int .i64 b, .string ⟨#[]⟩, .bool false] 120)) c ok) := Lib.hid (E6.out.new _)
 have F7 : Hid (FieldsAt (w6.alloc (.cells #[.int .i64 a, .string ⟨#[]⟩, .bool false, .int .i64 b, .string ⟨#[]⟩, .bool false] 120)) w6.heap.size 0 [flN a, flN b]) := Lib.hid (fields_at (Rws.made w6 120 [flN a, flN b] (fun f _ => fl3_len f)) (by simp))
 refine hK.out _ _ (gb_new hHeld _) (fun hHeld => ?_)
 clear hK K
 refine wpAnyH_ready (rs := [8]) (by kernel_rfl) (by simp) ?_
 refine AllReadyH.cons rfl (fun K hK => ?_) AllReadyH.nil
 go_simp
 refine (LY.out _ _ E7.out F7.out (by simp)).mono ?_
 rintro e w9 ⟨rfl, h8, h9⟩
 have E9 := Lib.hid h8
 have G9 := Lib.hid (gb_trans hHeld h9)
 refine hK.out _ _ G9.out (fun hHeld => ?_)
 clear h8 h9
 clear hK K
 refine wpAnyH_td (i := 9) rfl ?_
 simp only [zz]
 refine wpAnyH_done (by kernel_rfl) ?_ _
 go_wp2_with fail
 go_ret
 exact ⟨rfl, E9.out, gb_trans G0.out G9.out⟩
end Go.Proofs.Ytkacfmaogiblfaa
