import Derived.Test.YtmpajhjfnfcdlaaCom5
import Derived.Test.YtmpajhjfnfcdlaaCom3
import Derived.Test.YtmpajhjfnfcdlaaCom4
import Derived.Test.YtmpajhjfnfcdlaaCom2
import Derived.Lib.Hide
import Derived.OwnWalk
import Derived.Laws.BitsAllLaws
import Derived.Deep.Slices
import Derived.Lib.Strings
import Derived.Laws.IdiomCopy
import Derived.Laws.OwnMore
import Derived.Lib.SlicesCompact
import Derived.Tactics
import Derived.Deep.WholeRow
import Derived.Deep.MidRow
import Derived.Great.BuildSlice
set_option maxRecDepth 100000
set_option linter.all false
set_option maxHeartbeats 12800000
namespace Go.Proofs.Ytmpajhjfnfcdlaa
open Go.RowKit
def rgV (r : Sz.Rg) : List Value := [.int .i64 r.1, .int .i64 r.2]
abbrev Rgs (w : World) (F : Nat → Prop) (v : Value) (l : List Sz.Rg) : Prop := Rws 2 rgV w F v l
def Bd (r : Sz.Rg) : Prop := -9223372036854775808 ≤ r.1 ∧ r.1 ≤ 9223372036854775807 ∧ -9223372036854775808 ≤ r.2 ∧ r.2 ≤ 9223372036854775807
theorem Rgs.at {w : World} {F : Nat → Prop} {b o : Nat} {n cap : Nat} {l : List Sz.Rg} (h : Rgs w F (.slice (some ⟨b, o, none⟩) n cap) l) {i : Nat} {x : Sz.Rg} (hx : l[i]? = some x) :
  w.cell? ⟨b, o + i * 2, none⟩ = some (.int .i64 x.1) ∧ w.cell? ⟨b, o + i * 2 + 1, none⟩ = some (.int .i64 x.2) := by
 obtain ⟨A, c, e, -, hat⟩ := h
 injection e with e1 e2 e3
 obtain ⟨b', o', e, -, -, hc⟩ := hat (by obtain ⟨hl, _⟩ := List.getElem?_eq_some_iff.1 hx; omega)
 rw [e] at e1
 injection e1 with e1
 injection e1 with e1 e2
 subst e1 e2
 exact ⟨hc i x hx 0 _ rfl, hc i x hx 1 _ rfl⟩
theorem Rgs.slice {w : World} {F : Nat → Prop} {v : Value} {l : List Sz.Rg} (h : Rgs w F v l) : ∃ A cap, v = .slice A l.length cap ∧ l.length ≤ cap := by
 obtain ⟨A, c, e, hc, hat⟩ := h
 exact ⟨A, c, e, hc⟩
open Go.RowKit
theorem Cells.below {w w' : World} {F : Nat → Prop} {v : Value} {us : List Value} (h : Cells w F v us) (k : Below w.heap.size w w') : Cells w' F v us := h.kept (Kept.ofBelow k (fun _ => False)) (fun _ _ h => h)
theorem below_drews' (w : World) (n : Nat) : Below w.heap.size w (w.drewN n) := ⟨rfl, rfl, rfl, Nat.le_refl _, fun _ _ => rfl⟩
theorem strInfo : (Try.prog.info? 9).map (fun i => (i.zero, i.size, i.bytes)) = some (some (.string ⟨#[]⟩), 1, 16) := by kernel_rfl
theorem own_below {w w' : World} {base t size n : Nat} {v : Value} {xs : List Value} (h : w.ownsRow base t size v n xs) (k : Below w.heap.size w w') : w'.ownsRow base t size v n xs :=
 h.kept (Kept.ofBelow k (fun i => i = w.heap.size)).grown (Or.inr (fun e => by have := (h.lt _ e).2; omega))
def TextsOwn (w : World) (out : List (List UInt8)) (v : Value) (wr : World) : Prop := wr.ownsRow w.heap.size 9 1 v out.length (texts out) ∧ Below w.heap.size w wr
theorem texts_start (w : World) : TextsOwn w [] (.slice none 0 0) w := ⟨World.ownsRow_nil _ _ _ _, Below.refl _ _⟩
theorem TextsOwn.below {w w1 w2 : World} {out : List (List UInt8)} {v : Value} (h : TextsOwn w out v w1) (k : Below w1.heap.size w1 w2) : TextsOwn w out v w2 := ⟨own_below h.1 k, h.2.trans (k.mono h.2.size)⟩
theorem texts_more {w wr w2 : World} {out : List (List UInt8)} {v v' : Value} {o : Obj} {x : List UInt8} (h : TextsOwn w out v wr) (hown : w2.ownsRow w.heap.size 9 1 v' (out.length + 1) (texts out ++ [.string (mk x)])) (hg : (wr.alloc o).grownBy w2 v.ownBlock) :
  TextsOwn w (out ++ [x]) v' w2 := by
 obtain ⟨h1, h2⟩ := h
 refine ⟨?_, (h2.alloc h2.size o).grown hg (by have := h2.size; simp; omega) (fun k hk => (h1.lt k hk).1)⟩
 rw [List.length_append]
 simpa [texts] using hown
theorem TextsOwn.cells {w w' : World} {out : List (List UInt8)} {v : Value} (h : TextsOwn w out v w') : Cells w' (NewIn w w') v (texts out) := Cells.ofOwn h.1 (fun _ _ h1 h2 => ⟨h1, h2⟩)
open Go.RowKit
theorem idx (s : ByteArray) (k : Nat) (h : k < s.size) : ∃ c : UInt8, s.data.toList[k]? = some c ∧ ∀ V : World, (Instr.index 9 (.string s) (.int .i64 (k : Int))).run Try.prog V = .ok (.int .u8 (c.toNat : Int)) V := by
 refine ⟨s[k]'h, ?_, fun V => by go_simp⟩
 rw [List.getElem?_eq_getElem (by rw [← Lib.size_eq]; exact h), Array.getElem_toList]
 rfl
open Go.RowKit
structure PathOk : Prop where
 check : ∀ (s : List UInt8) (w : World), s.length ≤ 100000 → Calls Try.prog 79 #[.string (mk s)] w fun e w' => e = .returned (.int .i64 (if Pth.Right s then 0 else 13)) ∧ Below w.heap.size w w'
 names : ∀ (s : List UInt8) (w : World), s.length ≤ 100000 → Calls Try.prog 108 #[.string (mk s)] w fun e w' => ∃ v, e = .returned (.tuple #[v, .int .i64 (if Pth.Right s then 0 else 13)]) ∧ Cells w' (NewIn w w') v (texts (if Pth.Right s then Pth.split s else [])) ∧ Below w.heap.size w w'
open Go.RowKit
def clV (c : Flt.Cl) : List Value := [.string (mk c.pre), .int .i64 c.lo, .int .i64 c.hi]
abbrev Cls (w : World) (F : Nat → Prop) (v : Value) (l : List Flt.Cl) : Prop := Rws 3 clV w F v l
def Flt.Bd (c : Flt.Cl) : Prop := c.pre.length ≤ 100000 ∧ Go.Proofs.Ytmpajhjfnfcdlaa.Bd (Flt.rg c)
theorem cl_one (c : Flt.Cl) : ∀ u ∈ clV c, u.oneCell' = true := by
 intro u hu
 unfold clV at hu
 simp only [List.mem_cons, List.not_mem_nil, or_false] at hu
 rcases hu with rfl | rfl | rfl <;> rfl
def Flt.first : List Flt.Cl → Int
 | [] => 0
 | c :: l => if c.pre ≠ [] ∧ ¬ Pth.Right c.pre then 13 else if Flt.Right c then Flt.first l else 2
def Flt.check (f : List Flt.Cl) : Int := if 8 < f.length then 4 else Flt.first f
def Flt.hit (p : List UInt8) (size : Int) (dead : Bool) (c : Flt.Cl) : Bool := decide (Pth.Covers c.pre p) && (dead || decide (0 ≤ size ∧ size ≤ 200 ∧ c.lo ≤ size ∧ size ≤ c.hi))
def Flt.whole : List Flt.Cl := [⟨[], 0, 200⟩]
structure FilterOk : Prop where
 check : ∀ {w : World} {F : Nat → Prop} {v : Value} {f : List Flt.Cl}, Cls w F v f → f.length ≤ 100000 → (∀ c ∈ f, Flt.Bd c) → Calls Try.prog 121 #[v] w fun e w' => e = .returned (.int .i64 (Flt.check f)) ∧ Below w.heap.size w w'
theorem Cls.at {w : World} {F : Nat → Prop} {b o : Nat} {n cap : Nat} {l : List Flt.Cl} (h : Cls w F (.slice (some ⟨b, o, none⟩) n cap) l) {i : Nat} {x : Flt.Cl} (hx : l[i]? = some x) :
  w.cell? ⟨b, o + i * 3, none⟩ = some (.string (mk x.pre)) ∧ w.cell? ⟨b, o + i * 3 + 1, none⟩ = some (.int .i64 x.lo) ∧ w.cell? ⟨b, o + i * 3 + 2, none⟩ = some (.int .i64 x.hi) := by
 obtain ⟨A, c, e, -, hat⟩ := h
 injection e with e1 e2 e3
 obtain ⟨b', o', e, -, -, hc⟩ := hat (by obtain ⟨hl, _⟩ := List.getElem?_eq_some_iff.1 hx; omega)
 rw [e] at e1
 injection e1 with e1
 injection e1 with e1 e2
 subst e1 e2
 exact ⟨hc i x hx 0 _ rfl, hc i x hx 1 _ rfl, hc i x hx 2 _ rfl⟩
abbrev clA (c : Flt.Cl) : Value := .agg #[.string (mk c.pre), .int .i64 c.lo, .int .i64 c.hi]
end Go.Proofs.Ytmpajhjfnfcdlaa
namespace Go.Proofs.Ytmpajhjfnfcdlaa.Pck
def cl (c : Flt.Cl) : List UInt8 := txt c.pre ++ (num c.lo ++ num c.hi)
def flt (f : List Flt.Cl) : List UInt8 := lst cl f
def rdCl : Rdr Flt.Cl := bnd rt fun p => bnd rn fun a => bnd rn fun b => ret ⟨p, a, b⟩
def rdFlt : Rdr (List Flt.Cl) := list rdCl
def OkFlt (f : List Flt.Cl) : Prop := f.length ≤ 64 ∧ ∀ c ∈ f, Flt.Right c
instance (f : List Flt.Cl) : Decidable (OkFlt f) := inferInstanceAs (Decidable (_ ∧ _))
def putFlt (f : List Flt.Cl) : List UInt8 × Int := putOf (OkFlt f) (flt f)
def getFlt (s : List UInt8) : List Flt.Cl × Int := getOf rdFlt putFlt [] s
def clR (c : Flt.Cl) : List UInt8 := txt c.pre ++ (numR c.lo ++ numR c.hi)
def SmC (c : Flt.Cl) : Prop := c.pre.length ≤ 1000 ∧ Flt.Bd c
theorem clR_len (c : Flt.Cl) (h : SmC c) : (clR c).length ≤ 1027 := by
 have h1 := txt_len c.pre
 have h2 := numR_len c.lo
 have h3 := numR_len c.hi
 have h4 := h.1
 unfold clR
 simp only [List.length_append]
 omega
theorem clR_is {c : Flt.Cl} (h : Flt.Right c) : clR c = cl c := by
 obtain ⟨-, h1, h2, h3⟩ := h
 unfold clR cl
 rw [numR_is h1, numR_is (by omega)]
theorem fltR_is {f : List Flt.Cl} (h : OkFlt f) : lst clR f = flt f := by
 unfold flt lst
 congr 1
 have h2 := h.2
 clear h
 induction f with
 | nil => rfl
 | cons x l ih =>
  rw [List.flatMap_cons, List.flatMap_cons, clR_is (h2 x (by simp)), ih (fun y hy => h2 y (List.mem_cons_of_mem _ hy))]
theorem right_pre {c : Flt.Cl} (h : Flt.Right c) : c.pre.length ≤ 40 := by
 rcases h.1 with h1 | h1
 ·rw [h1]; simp
 ·exact h1.2.1
theorem takes_cl {c : Flt.Cl} (h : Flt.Right c) : Takes rdCl (cl c) c := by
 have hp := right_pre h
 obtain ⟨-, h1, h2, h3⟩ := h
 have := Takes.bnd (k := fun p => bnd rn fun a => bnd rn fun b => ret (⟨p, a, b⟩ : Flt.Cl)) (Takes.txt (t := c.pre) (by omega)) (Takes.bnd (Takes.num h1 (by omega)) (Takes.bnd (Takes.num (n := c.hi) (by omega) (by omega)) (Takes.ret _)))
 rw [List.append_nil] at this
 exact this
theorem cl_le {c : Flt.Cl} (h : Flt.Right c) : (cl c).length ≤ 67 := by
 have a := txt_len c.pre
 have b := num_len c.lo
 have d := num_len c.hi
 have e := right_pre h
 unfold cl
 simp only [List.length_append]
 omega
theorem flt_le {f : List Flt.Cl} (h : OkFlt f) : (flt f).length ≤ 4873 := by
 have h1 : (flt f).length ≤ 9 + f.length * (67 + 9) := lst_le f (fun c hc => cl_le (h.2 c hc))
 have h2 : f.length * (67 + 9) ≤ 64 * (67 + 9) := Nat.mul_le_mul_right _ h.1
 omega
theorem takes_flt {f : List Flt.Cl} (h : OkFlt f) : Takes rdFlt (flt f) f :=
 list_backs (fun c hc => ⟨takes_cl (h.2 c hc), by have := cl_le (h.2 c hc); omega⟩) (by have := h.1; omega)
theorem rdCl_never : Never rdCl := by show (rdCl [] 0).2.2 ≠ 0; decide +kernel
theorem rdFlt_len (l : List UInt8) (e : Int) : (rdFlt l e).1.length ≤ l.length := list_len rdCl_never l e
def NnC (m : Nat) (c : Flt.Cl) : Prop := c.pre.length ≤ m ∧ (0 ≤ c.lo ∧ c.lo ≤ 9223372036854775807) ∧ 0 ≤ c.hi ∧ c.hi ≤ 9223372036854775807
theorem rdCl_nn (l : List UInt8) (e : Int) : NnC l.length (rdCl l e).1 := ⟨(rt_left _ _).1, rn_nonneg _ _, rn_nonneg _ _⟩
theorem rdFlt_nn (l : List UInt8) (e : Int) : ∀ c ∈ (rdFlt l e).1, NnC l.length c := list_all (m := l.length) (fun t ht => by
 obtain ⟨h1, h2⟩ := rdCl_nn t 0
 exact ⟨Nat.le_trans h1 ht, h2⟩) l e (Nat.le_refl _)
theorem nnC_bd {c : Flt.Cl} {m : Nat} (h : NnC m c) (hm : m ≤ 100000) : Flt.Bd c := by
 obtain ⟨h1, h2, h3⟩ := h
 refine ⟨by omega, ?_⟩
 unfold Go.Proofs.Ytmpajhjfnfcdlaa.Bd Flt.rg
 simp only
 omega
theorem rdCl_left (l : List UInt8) (e : Int) : (rdCl l e).2.1.length ≤ l.length := Nat.le_trans (rn_left _ _) (Nat.le_trans (rn_left _ _) (rt_left _ _).2)
theorem check_one (c : Flt.Cl) : Flt.check [c] = 0 ↔ Flt.Right c := by
 unfold Flt.check
 rw [if_neg (by simp)]
 unfold Flt.first
 constructor
 ·intro h
  split at h
  ·exact absurd h (by decide)
  ·split at h
   ·assumption
   ·exact absurd h (by decide)
 ·intro h
  have h1 : ¬ (c.pre ≠ [] ∧ ¬ Pth.Right c.pre) := by
   rintro ⟨a, b⟩
   rcases h.1 with h2 | h2
   ·exact a h2
   ·exact b h2
  rw [if_neg h1, if_pos h]
  rfl
end Go.Proofs.Ytmpajhjfnfcdlaa.Pck
namespace Go.Proofs.Ytmpajhjfnfcdlaa
open Go.RowKit
def Near (w : World) (v v' : Value) : Prop := v'.ownBlock = v.ownBlock ∨ ∀ g, v'.ownBlock = some g → w.heap.size ≤ g
theorem Near.refl (w : World) (v : Value) : Near w v v := Or.inl rfl
theorem Near.apart {w w' : World} {u v v' : Value} {base t size n : Nat} {xs : List Value} (h : Near w' v v') (ha : ∀ g, u.ownBlock = some g → v.ownBlock ≠ some g) (hu : w.ownsRow base t size u n xs) (hs : w.heap.size ≤ w'.heap.size) : ∀ g, u.ownBlock = some g → v'.ownBlock ≠ some g := by
 intro g hg e
 rcases h with h | h
 ·exact ha g hg (h ▸ e)
 ·have := (hu.lt g hg).2
  have := h g e
  omega
section
variable {P : Program} {α : Type} {k : Nat} {f : α → List Value}
theorem append_near {w : World} (base : Nat) (t ty e : TypeId) (i : TypeInfo) (z : Value) (size bytes : Nat) (ht : P.underlying t = some (.slice e)) (hi : P.info? e = some i) (hz : i.zero = some z)
    (hsize : i.size = size) (hby : i.bytes = bytes) (hzs : z.cells.size = size) (hsz : 0 < size) {v : Value} {n : Nat} {xs : List Value} (hown : w.ownsRow base e size v n xs)
    (a : Addr) (m c : Nat) (news : List Value) (hl : news.length = m * size) (hnews : ∀ j u, news[j]? = some u → w.cell? (a.add j) = some u) (h1 : ∀ u ∈ news, u.oneCell' = true)
    (h63 : n + m ≤ maxLen) (hbytes : (n + m) * bytes ≤ 140737488355328) {v' : Value} {w' : World} (hr : (Builtin.append_ #[t, t] ty #[v, .slice (some a) m c]).run P w = .ok v' w') : Near w v v' := by
  have hsmall : n + m ≤ 9223372036854775807 := by simp only [maxLen] at h63; omega
  rcases hown.2 with ⟨rfl, rfl⟩ | ⟨g, cap, cur, rfl, hbg, hg, hnc, hcm, hcs, htake⟩
  · obtain ⟨v2, w2, r1, r2, -, -⟩ := run_append_own w w.heap.size t ty e i z size bytes ht hi hz hsize hby hzs hsz (.slice none 0 0) 0 [] (World.ownsRow_nil _ _ _ _) a m c news hl hnews h1 h63 hbytes (Nat.le_refl _)
    rw [hr] at r1
    injection r1 with e1 e2
    subst e1
    exact Or.inr (fun g hg => (r2.lt g hg).1)
  · subst hsize
    subst hby
    by_cases hroom : n + m ≤ cap
    · have hfit : n * i.size + news.length ≤ cur.size := by rw [hl, hcs, ← Nat.add_mul]; exact Nat.mul_le_mul_right _ hroom
      have r1 := run_append_room (P := P) w t ty e i ht hi g n cap cur hg a m c news hl hnews h1 hroom hfit
      rw [hr] at r1
      injection r1 with e1 e2
      subst e1
      exact Or.inl rfl
    · have r1 := run_append_grow (P := P) w t ty e i z ht hi hz ⟨g, 0, none⟩ n cap xs hown.1 (hown.cells (g := g) rfl) a m c news hl hnews (by omega) (by omega) (growslice_fits (by omega) hbytes)
      rw [hr] at r1
      injection r1 with e1 e2
      subst e1
      exact Or.inr (fun g' hg' => by have : w.heap.size = g' := by simpa [Value.ownBlock] using hg'
                                     omega)
theorem join_near {w : World} (base : Nat) (t ty e : TypeId) (i : TypeInfo) (z : Value) (bytes : Nat) (ht : P.underlying t = some (.slice e)) (hi : P.info? e = some i) (hz : i.zero = some z) (hsize : i.size = k) (hby : i.bytes = bytes) (hzs : z.cells.size = k) (hsz : 0 < k)
  {v xv : Value} {n : Nat} {xs : List Value} {F : Nat → Prop} {l : List α} (hown : w.ownsRow base e k v n xs) (hx : Rws k f w F xv l) (hk : ∀ x ∈ l, (f x).length = k) (h1 : ∀ x ∈ l, ∀ u ∈ f x, u.oneCell' = true)
  (h63 : n + l.length ≤ maxLen) (hbytes : (n + l.length) * bytes ≤ 140737488355328) (hbase : base ≤ w.heap.size) :
  ∃ v' w', (Builtin.append_ #[t, t] ty #[v, xv]).run P w = .ok v' w' ∧ w'.ownsRow base e k v' (n + l.length) (xs ++ l.flatMap f) ∧ w.grownBy w' v.ownBlock ∧ Near w v v' := by
 obtain ⟨v', w', r1, r2, r3⟩ := join_rows (P := P) base t ty e i z bytes ht hi hz hsize hby hzs hsz hown hx hk h1 h63 hbytes hbase
 refine ⟨v', w', r1, r2, r3, ?_⟩
 obtain ⟨A, c, rfl, hc, hat⟩ := hx
 have hone : ∀ u ∈ l.flatMap f, u.oneCell' = true := by
  intro u hu
  obtain ⟨x, hx, hu⟩ := List.mem_flatMap.1 hu
  exact h1 x hx u hu
 have hgo : ∀ ad : Addr, A = some ad → (∀ j u, (l.flatMap f)[j]? = some u → w.cell? (ad.add j) = some u) → Near w v v' := by
  rintro ad rfl hnews
  exact append_near base t ty e i z k bytes ht hi hz hsize hby hzs hsz hown ad l.length c (l.flatMap f) (rows_len l hk) hnews hone h63 hbytes r1
 by_cases h0 : 0 < l.length
 ·obtain ⟨b, o, rfl, -, hbl, hcell⟩ := hat h0
  refine hgo _ rfl (fun j u hu => ?_)
  obtain ⟨m, x, r, e1, e2, rfl⟩ := rows_of l hk j u hu
  rw [Go.WideShapes.add_plain, ← Nat.add_assoc]
  exact hcell m x e1 r u e2
 ·have hl : l = [] := List.eq_nil_of_length_eq_zero (by omega)
  subst hl
  cases A with
  | none =>
   have r4 := join_nothing (P := P) base t ty e i k c ht hi v n xs hown
   rw [show ([] : List α).length = 0 from rfl, r4] at r1
   injection r1 with e1 e2
   exact Or.inl (by rw [e1])
  | some ad => exact hgo ad rfl (fun j u hu => by simp at hu)
theorem wp_joins {ops : Array Oper} {rest : List Oper} {o : Oper} {a : Act} {w : World} {Q : Exit → Act → World → Prop} (hgd : o.guard = none) (s x : Operand) (t : TypeId)
  (ho : o.op = .call { callee := .builtin .append, args := #[s, x], argTypes := #[t, t] }) (base : Nat) (e : TypeId) (i : TypeInfo) (z : Value) (bytes : Nat) (ht : P.underlying t = some (.slice e)) (hi : P.info? e = some i) (hz : i.zero = some z)
  (hsize : i.size = k) (hby : i.bytes = bytes) (hzs : z.cells.size = k) (hsz : 0 < k) {v xv : Value} {n : Nat} {xs : List Value} {F : Nat → Prop} {l : List α} (hs : a.eval s = v) (hx : a.eval x = xv)
  (hown : w.ownsRow base e k v n xs) (hr : Rws k f w F xv l) (hk : ∀ x ∈ l, (f x).length = k) (h1 : ∀ x ∈ l, ∀ u ∈ f x, u.oneCell' = true) (h63 : n + l.length ≤ maxLen) (hbytes : (n + l.length) * bytes ≤ 140737488355328) (hbase : base ≤ w.heap.size)
  (h : ∀ v' w', w'.ownsRow base e k v' (n + l.length) (xs ++ l.flatMap f) → w.grownBy w' v.ownBlock → Near w v v' → wpList P ops Q rest (a.put o.dst v') w') : wpList P ops Q (o :: rest) a w :=
 wpList_plain hgd fun _ hK => by
  obtain ⟨v', w', r1, r2, r3, r4⟩ := join_near (P := P) base t o.type e i z bytes ht hi hz hsize hby hzs hsz hown hr hk h1 h63 hbytes hbase
  unfold Oper.wp execOp
  simp only [ho, resolve, invoke, builtin, Sem.run_bind, Sem.run_pure, Result.andThen_ok, List.map_toArray, List.map_cons, List.map_nil, hs, hx, r1]
  exact hK _ _ (h v' w' r2 r3 r4)
theorem step_near {ops : Array Oper} {o : Oper} {a : Act} {w : World} {K : Act → World → Prop} {Q : Exit → Act → World → Prop} {E : Prop} (hgd : o.guard = none) (s x : Operand) (t : TypeId)
  (ho : o.op = .call { callee := .builtin .append, args := #[s, x], argTypes := #[t, t] }) (base : Nat) (e : TypeId) (i : TypeInfo) (z : Value) (bytes : Nat) (ht : P.underlying t = some (.slice e)) (hi : P.info? e = some i) (hz : i.zero = some z)
  (hsize : i.size = k) (hby : i.bytes = bytes) (hzs : z.cells.size = k) (hsz : 0 < k) {v xv : Value} {n : Nat} {xs : List Value} {F : Nat → Prop} {l : List α} (hs : a.eval s = v) (hx : a.eval x = xv)
  (hown : w.ownsRow base e k v n xs) (hr : Rws k f w F xv l) (hk : ∀ x ∈ l, (f x).length = k) (h1 : ∀ x ∈ l, ∀ u ∈ f x, u.oneCell' = true) (h63 : n + l.length ≤ maxLen) (hbytes : (n + l.length) * bytes ≤ 140737488355328) (hbase : base ≤ w.heap.size)
  (h : ∀ v' w', w'.ownsRow base e k v' (n + l.length) (xs ++ l.flatMap f) → w.grownBy w' v.ownBlock → Near w v v' → K (a.put o.dst v') w') :
  if Region.wanted o (yielded ops a.tmps) = true then Oper.wp P o a w K Q else E := by
 rw [if_pos (by simp [Region.wanted, hgd])]
 obtain ⟨v', w', r1, r2, r3, r4⟩ := join_near (P := P) base t o.type e i z bytes ht hi hz hsize hby hzs hsz hown hr hk h1 h63 hbytes hbase
 unfold Oper.wp execOp
 simp only [ho, resolve, invoke, builtin, Sem.run_bind, Sem.run_pure, Result.andThen_ok, List.map_toArray, List.map_cons, List.map_nil, hs, hx, r1]
 exact h v' w' r2 r3 r4
end
theorem own_left {w w' : World} {base t size n : Nat} {v : Value} {xs : List Value} {r : Option Nat} (h : w.ownsRow base t size v n xs) (hg : w.grownBy w' r) (hne : ∀ g, v.ownBlock = some g → r ≠ some g) : w'.ownsRow base t size v n xs := by
 refine ⟨h.1, ?_⟩
 rcases h.2 with h2 | ⟨g, cap, cur, rfl, hb, hgb, rest⟩
 ·exact .inl h2
 ·have hlt := (h.lt g rfl).2
  exact .inr ⟨g, cap, cur, rfl, hb, (hg.block g hlt (fun e => hne g rfl e.symm)).trans hgb, rest⟩
open Go.RowKit
section
variable {w : World} {base e size n cap g : Nat} {xs : List Value}
end
open Go.RowKit
structure Lies (ty : TypeId) (w : World) (b o : Nat) (cs : List Value) : Prop where
 at_ : w.rangeAt b o cs
 row : ∃ d, Try.prog.underlying ty = some d ∧ d.isRow = true
 size : (Try.prog.info? ty).map (·.size) = some cs.length
section
variable {w w' : World} {b o : Nat} {cs : List Value} {ty : TypeId}
theorem Lies.run (h : Lies ty w b o cs) : (Instr.loadAt ty (.pointer (some ⟨b, o, none⟩))).run Try.prog w = .ok (.agg cs.toArray) w := by
 obtain ⟨d, hu, hd⟩ := h.row
 simp only [Instr.loadAt, Instr.sureAddr, Sem.run_bind, Sem.run_pure, Result.andThen_ok, run_loadVar_mid w b o ty cs d h.at_ hu hd h.size]
theorem Lies.below {B : Nat} (h : Lies ty w b o cs) (hb : Below B w w') (hB : b < B) : Lies ty w' b o cs := ⟨fun j v hv => (hb.cell (p := ⟨b, o + j, none⟩) hB).trans (h.at_ j v hv), h.row, h.size⟩
theorem row_store {old : Array Value} {t : TypeId} (hrow : Row w b t old) (hi : (Try.prog.info? ty).map (·.size) = some cs.length) (hs : old.size = cs.length) (h1 : ∀ u ∈ cs, u.oneCell' = true) : (Instr.storeAt ty (.pointer (some ⟨b, 0, none⟩)) (.agg cs.toArray)).run Try.prog w = .ok () (w.setRow b cs.toArray) := by
 simp only [Instr.storeAt, Instr.sureAddr, Sem.run_bind, Sem.run_pure, Result.andThen_ok]
 exact run_storeVar_row (P := Try.prog) _ b t ty old cs.toArray hrow (by simpa using hi) (by simpa using hs) (all_oneCell_toArray h1)
theorem row_set {old cs : Array Value} {t : TypeId} (hrow : Row w b t old) : Row (w.setRow b cs) b t cs := setRow_heap w b old cs t (0, 0) hrow
end
section
variable {w : World} {b o : Nat} {F : Nat → Prop}
theorem range_row {t : TypeId} {cs : List Value} (h : Row w b t cs.toArray) : w.rangeAt b 0 cs := fun j u hu => by
 rw [Nat.zero_add, h.at, List.getElem?_toArray]; exact hu
end
theorem Kept.setRowK (w : World) (b : Nat) (cs : Array Value) : Kept (fun i => i = b) w (w.setRow b cs) :=
 ⟨rfl, rfl, rfl, by show w.heap.size ≤ (w.heap.modify b _).size; simp, fun k _ hn => by
  show (w.heap.modify b _)[k]? = _
  rw [Array.getElem?_modify, if_neg (fun e => hn e.symm)]⟩
section
variable {ops : Array Oper} {o : Oper} {a : Act} {w : World} {K : Act → World → Prop} {Q : Exit → Act → World → Prop} {E : Prop}
end
theorem wpList_rstore {ops : Array Oper} {rest : List Oper} {op : Oper} {a : Act} {w : World} {Q : Exit → Act → World → Prop} {ty t : TypeId} {b : Nat} {old : Array Value} {cs : List Value} (hw : Region.wanted op (yielded ops a.tmps) = true) (x y : Operand) (ho : op.op = .store ty x y) (hx : a.eval x = .pointer (some ⟨b, 0, none⟩)) (hy : a.eval y = .agg cs.toArray)
  (hrow : Row w b t old) (hi : (Try.prog.info? ty).map (·.size) = some cs.length) (hs : old.size = cs.length) (h1 : ∀ u ∈ cs, u.oneCell' = true)
  (k : ∀ w', Row w' b t cs.toArray → Kept (fun i => i = b) w w' → wpList Try.prog ops Q rest (a.put op.dst undef) w') : wpList Try.prog ops Q (op :: rest) a w := by
 unfold wpList
 rw [if_pos hw]
 refine Or.inl ?_
 have hl := row_store (ty := ty) hrow hi hs h1
 unfold Oper.wp execOp
 simp only [ho, hx, hy, Sem.run_bind, hl, Result.andThen_ok]
 exact k _ (row_set hrow) (Kept.setRowK _ _ _)
theorem rows_made {α : Type} {k : Nat} {f : α → List Value} (w : World) (t : TypeId) (r : α) : Rws k f (w.alloc (.cells (f r).toArray t)) (NewIn w (w.alloc (.cells (f r).toArray t))) (.slice (some ⟨w.heap.size, 0, none⟩) 1 1) [r] := by
 refine ⟨_, 1, rfl, Nat.le_refl _, fun _ => ⟨w.heap.size, 0, rfl, ⟨Nat.le_refl _, by simp⟩, by simp, fun i x hx j u hu => ?_⟩⟩
 have hi : i = 0 := by obtain ⟨h, _⟩ := List.getElem?_eq_some_iff.1 hx; simpa using h
 subst hi
 have e : x = r := by simpa using hx.symm
 subst e
 have := range_row (Row.made w t (f x).toArray) j u hu
 rw [Nat.zero_add] at this
 simpa using this
section
variable {α : Type} {f : α → List Value} {k : Nat}
end
open Go.RowKit Go.Sort
theorem pck_layVer {id : FuncId} (L : Lays id) {w : World} {c : Nat} {ok : Bool} (x : Ver.V) (hx : Pck.NnV x) (hE : ErrAt w c ok) :
  Calls Try.prog 54 #[.func (.func id) #[] #[.pointer (some ⟨c, 0, none⟩)], verA x] w (PutTo w c ok (Pck.ver x)) := by
 obtain ⟨a, b⟩ := x
 have hcf := run_callFunc_own L.there
 have hcw : c < w.heap.size := Row.inHeap hE
 have FO : ∀ f ∈ [flN a, flN b], FlOk f := by
  intro f hf
  simp only [List.mem_cons, List.not_mem_nil, or_false] at hf
  rcases hf with rfl | rfl
  ·exact flN_ok hx.1.1 hx.1.2
  ·exact flN_ok hx.2.1 hx.2.2
 have AB : allBytes [flN a, flN b] = Pck.ver ⟨a, b⟩ := by simp only [allBytes, List.flatMap_cons, List.flatMap_nil, List.append_nil, flN_all, flT_all]; rfl
 have LY : Hid (∀ (W : World) (bk : Nat), ErrAt W c ok → FieldsAt W bk 0 [flN a, flN b] → bk < W.heap.size → Calls Try.prog id #[.slice (some ⟨bk, 0, none⟩) 2 2, .pointer (some ⟨c, 0, none⟩)] W (PutTo W c ok (Pck.ver ⟨a, b⟩))) := Lib.hid (fun W bk h1 h2 h3 => by have := L.lays (cap := 2) h1 h2 h3 (by simp) FO; rwa [AB] at this)
 dsimp only [verA]
 have hbox := Row.made w 23 #[.int .i64 a, .int .i64 b]
 have HX : Hid (∀ W : World, (w.alloc (.cells #[.int .i64 a, .int .i64 b] 23)).grownBy W (some c) → Row W w.heap.size 23 #[.int .i64 a, .int .i64 b]) := Lib.hid (fun W hW => hbox.grown hW (fun e => by injection e with e; omega))
 have E0 : Hid (ErrAt (w.alloc (.cells #[.int .i64 a, .int .i64 b] 23)).drew c ok) := Lib.hid (hE.new _)
 have G0 : Hid (w.grownBy (w.alloc (.cells #[.int .i64 a, .int .i64 b] 23)) (some c)) := Lib.hid (gb_new (gb_refl _ _) _)
 clear hE FO AB hbox hcw hx L
 go_enter Try.func54, Try.ntmps54
 go_wp2_with fail
 refine wp_region_held_drew (S := (fun w' : World => (w.alloc (.cells #[.int .i64 a, .int .i64 b] 23)).grownBy w' (some c))) (by kernel_rfl) (gb_draw (gb_refl _ _)) (fun hHeld => ?_)
 refine wpAnyH_td (i := 0) rfl ?_
 simp only [zz]
 refine wpAnyH_td (i := 1) rfl ?_
 simp only [zz]
 refine wpAnyH_tk (i := 2) (v := ?_) rfl (Or.inl ⟨by rfl, (by intro w hSw; have c0 := (HX.out _ hSw).at 0; go_simp; try with_reducible rfl)⟩) (by assumption) ?_
 simp only [zz]
 refine wpAnyH_td (i := 4) rfl ?_
 simp only [zz]
 refine wpAnyH_tk (i := 5) (v := ?_) rfl (Or.inl ⟨by rfl, (by intro w hSw; have c1 := (HX.out _ hSw).at 1; go_simp; try with_reducible rfl)⟩) (by assumption) ?_
 simp only [zz]
 refine wpAnyH_ready (rs := [3]) (by kernel_rfl) (by simp) ?_
 refine AllReadyH.cons rfl (fun K hK => ?_) AllReadyH.nil
 go_simp
 go_at_call 80
 refine (field_n _ _).mono ?_
 rintro e w3 ⟨rfl, hb⟩
 have E3 := Lib.hid (E0.out.below hb)
 refine hK.out _ _ (gb_trans hHeld (gb_below hb _)) (fun hHeld => ?_)
 clear hb
 clear hK K
 refine wpAnyH_ready (rs := [6]) (by kernel_rfl) (by simp) ?_
 refine AllReadyH.cons rfl (fun K hK => ?_) AllReadyH.nil
 go_simp
 go_at_call 80
 refine (field_n _ _).mono ?_
 rintro e w6 ⟨rfl, hb⟩
 have E6 := Lib.hid (E3.out.below hb)
 refine hK.out _ _ (gb_trans hHeld (gb_below hb _)) (fun hHeld => ?_)
 clear hb
 clear hK K
 refine wpAnyH_ready (rs := [7]) (by kernel_rfl) (by simp) ?_
 refine AllReadyH.cons rfl (fun K hK => ?_) AllReadyH.nil
 go_simp
 have E7 : Hid (ErrAt (w6.alloc (.cells #[.int .i64 a, .string ⟨#[]⟩, .bool false, .int .i64 b, .string ⟨#[]⟩, .bool false] 120)) c ok) := Lib.hid (E6.out.new _)
 have F7 : Hid (FieldsAt (w6.alloc (.cells #[.int .i64 a, .string ⟨#[]⟩, .bool false, .int .i64 b, .string ⟨#[]⟩, .bool false] 120)) w6.heap.size 0 [flN a, flN b]) := Lib.hid (fields_at (Rws.made w6 120 [flN a, flN b] (fun f _ => fl3_len f)) (by simp))
 refine hK.out _ _ (gb_new hHeld _) (fun hHeld => ?_)
 clear hK K
 refine wpAnyH_ready (rs := [8]) (by kernel_rfl) (by simp) ?_
 refine AllReadyH.cons rfl (fun K hK => ?_) AllReadyH.nil
 go_simp
 refine (LY.out _ _ E7.out F7.out (by simp)).mono ?_
 rintro e w9 ⟨rfl, h8, h9⟩
 have E9 := Lib.hid h8
 have G9 := Lib.hid (gb_trans hHeld h9)
 refine hK.out _ _ G9.out (fun hHeld => ?_)
 clear h8 h9
 clear hK K
 refine wpAnyH_td (i := 9) rfl ?_
 simp only [zz]
 refine wpAnyH_done (by kernel_rfl) ?_ _
 go_wp2_with fail
 go_ret
 exact ⟨rfl, E9.out, gb_trans G0.out G9.out⟩
theorem pck_layCl {id : FuncId} (L : Lays id) {w : World} {c : Nat} {ok : Bool} (x : Flt.Cl) (hx : Flt.Right x) (hE : ErrAt w c ok) :
  Calls Try.prog 65 #[.func (.func id) #[] #[.pointer (some ⟨c, 0, none⟩)], clA x] w (PutTo w c ok (Pck.cl x)) := by
 obtain ⟨p, a, b⟩ := x
 have hcf := run_callFunc_own L.there
 have hcw : c < w.heap.size := Row.inHeap hE
 have FO : ∀ f ∈ [flT p, flN a, flN b], FlOk f := by
  intro f hf
  simp only [List.mem_cons, List.not_mem_nil, or_false] at hf
  have h0 := Pck.right_pre hx
  obtain ⟨-, h1, h2, h3⟩ := hx
  dsimp only at h0 h1 h2 h3
  rcases hf with rfl | rfl | rfl
  ·exact flT_ok (by omega)
  ·exact flN_ok h1 (by omega)
  ·exact flN_ok (by omega) (by omega)
 have AB : allBytes [flT p, flN a, flN b] = Pck.cl ⟨p, a, b⟩ := by simp only [allBytes, List.flatMap_cons, List.flatMap_nil, List.append_nil, flN_all, flT_all]; rfl
 have LY : Hid (∀ (W : World) (bk : Nat), ErrAt W c ok → FieldsAt W bk 0 [flT p, flN a, flN b] → bk < W.heap.size → Calls Try.prog id #[.slice (some ⟨bk, 0, none⟩) 3 3, .pointer (some ⟨c, 0, none⟩)] W (PutTo W c ok (Pck.cl ⟨p, a, b⟩))) := Lib.hid (fun W bk h1 h2 h3 => by have := L.lays (cap := 3) h1 h2 h3 (by simp) FO; rwa [AB] at this)
 dsimp only [clA]
 have FF : Hid (∀ W : World, FieldsAt (W.alloc (.cells #[.int .i64 0, .string (mk p), .bool true, .int .i64 a, .string ⟨#[]⟩, .bool false, .int .i64 b, .string ⟨#[]⟩, .bool false] 120)) W.heap.size 0 [flT p, flN a, flN b]) := Lib.hid (fun W => fields_at (Rws.made W 120 [flT p, flN a, flN b] (fun f _ => fl3_len f)) (by simp))
 generalize hq : mk p = q at *
 clear hq
 have hbox := Row.made w 64 #[.string q, .int .i64 a, .int .i64 b]
 have HX : Hid (∀ W : World, (w.alloc (.cells #[.string q, .int .i64 a, .int .i64 b] 64)).grownBy W (some c) → Row W w.heap.size 64 #[.string q, .int .i64 a, .int .i64 b]) := Lib.hid (fun W hW => hbox.grown hW (fun e => by injection e with e; omega))
 have E0 : Hid (ErrAt (w.alloc (.cells #[.string q, .int .i64 a, .int .i64 b] 64)).drew c ok) := Lib.hid (hE.new _)
 have G0 : Hid (w.grownBy (w.alloc (.cells #[.string q, .int .i64 a, .int .i64 b] 64)) (some c)) := Lib.hid (gb_new (gb_refl _ _) _)
 clear hE FO AB hbox hcw hx L
 go_enter Try.func65, Try.ntmps65
 go_wp2_with fail
 refine wp_region_held_drew (S := (fun w' : World => (w.alloc (.cells #[.string q, .int .i64 a, .int .i64 b] 64)).grownBy w' (some c))) (by kernel_rfl) (gb_draw (gb_refl _ _)) (fun hHeld => ?_)
 refine wpAnyH_td (i := 0) rfl ?_
 simp only [zz]
 refine wpAnyH_td (i := 1) rfl ?_
 simp only [zz]
 refine wpAnyH_tk (i := 2) (v := ?_) rfl (Or.inl ⟨by rfl, (by intro w hSw; have c0 := (HX.out _ hSw).at 0; go_simp; try with_reducible rfl)⟩) (by assumption) ?_
 simp only [zz]
 refine wpAnyH_td (i := 4) rfl ?_
 simp only [zz]
 refine wpAnyH_td (i := 5) rfl ?_
 simp only [zz]
 refine wpAnyH_tk (i := 6) (v := ?_) rfl (Or.inl ⟨by rfl, (by intro w hSw; have c1 := (HX.out _ hSw).at 1; go_simp; try with_reducible rfl)⟩) (by assumption) ?_
 simp only [zz]
 refine wpAnyH_td (i := 8) rfl ?_
 simp only [zz]
 refine wpAnyH_td (i := 9) rfl ?_
 simp only [zz]
 refine wpAnyH_tk (i := 10) (v := ?_) rfl (Or.inl ⟨by rfl, (by intro w hSw; have c2 := (HX.out _ hSw).at 2; go_simp; try with_reducible rfl)⟩) (by assumption) ?_
 simp only [zz]
 refine wpAnyH_ready (rs := [3]) (by kernel_rfl) (by simp) ?_
 refine AllReadyH.cons rfl (fun K hK => ?_) AllReadyH.nil
 go_simp
 go_at_call 75
 refine (field_t _ _).mono ?_
 rintro e w3 ⟨rfl, hb⟩
 have E3 := Lib.hid (E0.out.below hb)
 refine hK.out _ _ (gb_trans hHeld (gb_below hb _)) (fun hHeld => ?_)
 clear hb
 clear hK K
 refine wpAnyH_ready (rs := [7]) (by kernel_rfl) (by simp) ?_
 refine AllReadyH.cons rfl (fun K hK => ?_) AllReadyH.nil
 go_simp
 go_at_call 80
 refine (field_n _ _).mono ?_
 rintro e w7 ⟨rfl, hb⟩
 have E7 := Lib.hid (E3.out.below hb)
 refine hK.out _ _ (gb_trans hHeld (gb_below hb _)) (fun hHeld => ?_)
 clear hb
 clear hK K
 refine wpAnyH_ready (rs := [11]) (by kernel_rfl) (by simp) ?_
 refine AllReadyH.cons rfl (fun K hK => ?_) AllReadyH.nil
 go_simp
 go_at_call 80
 refine (field_n _ _).mono ?_
 rintro e w11 ⟨rfl, hb⟩
 have E11 := Lib.hid (E7.out.below hb)
 refine hK.out _ _ (gb_trans hHeld (gb_below hb _)) (fun hHeld => ?_)
 clear hb
 clear hK K
 refine wpAnyH_ready (rs := [12]) (by kernel_rfl) (by simp) ?_
 refine AllReadyH.cons rfl (fun K hK => ?_) AllReadyH.nil
 go_simp
 have E12 : Hid (ErrAt (w11.alloc (.cells #[.int .i64 0, .string q, .bool true, .int .i64 a, .string ⟨#[]⟩, .bool false, .int .i64 b, .string ⟨#[]⟩, .bool false] 120)) c ok) := Lib.hid (E11.out.new _)
 have F12 : Hid (FieldsAt (w11.alloc (.cells #[.int .i64 0, .string q, .bool true, .int .i64 a, .string ⟨#[]⟩, .bool false, .int .i64 b, .string ⟨#[]⟩, .bool false] 120)) w11.heap.size 0 [flT p, flN a, flN b]) := Lib.hid (FF.out w11)
 refine hK.out _ _ (gb_new hHeld _) (fun hHeld => ?_)
 clear hK K
 refine wpAnyH_ready (rs := [13]) (by kernel_rfl) (by simp) ?_
 refine AllReadyH.cons rfl (fun K hK => ?_) AllReadyH.nil
 go_simp
 refine (LY.out _ _ E12.out F12.out (by simp)).mono ?_
 rintro e w9 ⟨rfl, h8, h9⟩
 have E9 := Lib.hid h8
 have G9 := Lib.hid (gb_trans hHeld h9)
 refine hK.out _ _ G9.out (fun hHeld => ?_)
 clear h8 h9
 clear hK K
 refine wpAnyH_td (i := 14) rfl ?_
 simp only [zz]
 refine wpAnyH_done (by kernel_rfl) ?_ _
 go_wp2_with fail
 go_ret
 exact ⟨rfl, E9.out, gb_trans G0.out G9.out⟩
end Go.Proofs.Ytmpajhjfnfcdlaa
