import Derived.Test.YtpafpegcodempaaCom2
import Derived.Test.YtpafpegcodempaaCom4
import Derived.Test.YtpafpegcodempaaCom1
import Derived.Test.YtpafpegcodempaaCom3
import Derived.Lib.Hide
import Derived.OwnWalk
import Derived.Laws.BitsAllLaws
import Derived.Deep.Slices
import Derived.Lib.Strings
import Derived.Laws.IdiomCopy
import Derived.Laws.OwnMore
import Derived.Lib.SlicesCompact
import Derived.Tactics
import Derived.Deep.WholeRow
import Derived.Deep.MidRow
import Derived.Great.BuildSlice
set_option maxRecDepth 100000
set_option linter.all false
namespace Go.Proofs.Ytpafpegcodempaa.Pck
def ver (v : Ver.V) : List UInt8 := num v.by_ ++ num v.n
def verR (v : Ver.V) : List UInt8 := numR v.by_ ++ numR v.n
def versR (l : List Ver.V) : List UInt8 := lst verR l
def vers (l : List Ver.V) : List UInt8 := lst ver l
def vec (v : List Int) : List UInt8 := vers (Vec.ends v)
def rdVer : Rdr Ver.V := bnd rn fun b => bnd rn fun n => ret ⟨b, n⟩
def rdVers : Rdr (List Ver.V) := list rdVer
def rdVec : Rdr (List Int) := bnd rdVers fun l => ret (Vec.ofl l)
def Nn (n : Int) : Prop := 0 ≤ n ∧ n ≤ 9223372036854775807
def NnV (v : Ver.V) : Prop := Nn v.by_ ∧ Nn v.n
def acc {α : Type} (f : α → List UInt8) (l : List α) (n : Nat) : List UInt8 := Leb.enc l.length ++ (l.take n).flatMap (fun x => txt (f x))
theorem acc_zero {α : Type} (f : α → List UInt8) (l : List α) : numR (l.length : Int) = acc f l 0 := by
 unfold numR num acc
 rw [if_pos (by omega)]
 simp
theorem acc_all {α : Type} (f : α → List UInt8) (l : List α) : acc f l l.length = lst f l := by unfold acc; rw [List.take_length]; rfl
theorem acc_next {α : Type} {f : α → List UInt8} {l : List α} {n : Nat} {x : α} (hx : l[n]? = some x) : acc f l n ++ txt (f x) = acc f l (n + 1) := by
 obtain ⟨h1, e1⟩ := List.getElem?_eq_some_iff.1 hx
 unfold acc
 rw [List.take_succ_eq_append_getElem h1, e1, List.flatMap_append, List.append_assoc]
 simp
theorem acc_len {α : Type} {f : α → List UInt8} {l : List α} {m k : Nat} (hf : ∀ x ∈ l, (f x).length ≤ m) (hk : l.length ≤ k) (n : Nat) : (acc f l n).length ≤ 9 + k * (m + 9) := by
 have h1 := flat_le (f := f) (m := m) (l.take n) (fun y hy => hf y (List.mem_of_mem_take hy))
 have h2 := (Leb.enc_len l.length).2
 have h3 : (l.take n).length ≤ k := by rw [List.length_take]; omega
 have h4 : (l.take n).length * (m + 9) ≤ k * (m + 9) := Nat.mul_le_mul_right _ h3
 unfold acc
 rw [List.length_append]
 omega
theorem verR_is {v : Ver.V} (h : NnV v) : verR v = ver v := by unfold verR ver; rw [numR_is h.1.1, numR_is h.2.1]
theorem verR_len (v : Ver.V) : (verR v).length ≤ 18 := by
 have h1 := numR_len v.by_
 have h2 := numR_len v.n
 unfold verR
 rw [List.length_append]
 omega
theorem flat_same {α : Type} {f g : α → List UInt8} {l : List α} (h : ∀ x ∈ l, f x = g x) : lst f l = lst g l := by
 unfold lst
 congr 1
 induction l with
 | nil => rfl
 | cons x l ih =>
  rw [List.flatMap_cons, List.flatMap_cons, h x (by simp), ih (fun y hy => h y (List.mem_cons_of_mem _ hy))]
theorem versR_is {l : List Ver.V} (h : ∀ x ∈ l, NnV x) : versR l = vers l := flat_same (fun x hx => verR_is (h x hx))
theorem takes_ver {v : Ver.V} (h : NnV v) : Takes rdVer (ver v) v :=
 (Takes.bnd (k := fun b => bnd rn fun n => ret (⟨b, n⟩ : Ver.V)) (Takes.num h.1.1 h.1.2) (Takes.bnd (Takes.num h.2.1 h.2.2) (Takes.ret _))).eq (by rw [List.append_nil]; rfl)
theorem ver_le (v : Ver.V) : (ver v).length ≤ 18 := by
 have h1 := num_len v.by_
 have h2 := num_len v.n
 unfold ver
 rw [List.length_append]
 omega
theorem vers_le (l : List Ver.V) : (vers l).length ≤ 9 + l.length * 27 := lst_le l (fun x _ => ver_le x)
theorem takes_vers {l : List Ver.V} (h : ∀ v ∈ l, NnV v) (hl : l.length < 9223372036854775808) : Takes rdVers (vers l) l :=
 list_backs (fun x hx => ⟨takes_ver (h x hx), by have := ver_le x; omega⟩) hl
theorem ends_le (v : List Int) : (Vec.ends v).length ≤ 65 := by
 have := Vec.endsK_len v 65
 rwa [Vec.endsK_all] at this
theorem vec_le (v : List Int) : (vec v).length ≤ 1764 := by
 have h1 := vers_le (Vec.ends v)
 have h2 := ends_le v
 have h3 : (Vec.ends v).length * 27 ≤ 65 * 27 := Nat.mul_le_mul_right _ h2
 unfold vec
 omega
theorem ends_nn {v : List Int} (h : ∀ n ∈ v, n ≤ 9223372036854775807) : ∀ x ∈ Vec.ends v, NnV x := by
 intro x hx
 obtain ⟨i, hi, h0, rfl⟩ := (Vec.ends_mem v x).1 hx
 have := Vec.at_le h i
 exact ⟨⟨by simp only; omega, by simp only; omega⟩, ⟨by simp only; omega, this⟩⟩
theorem takes_vec {v : List Int} (h : Vec.Plain v) (hb : ∀ n ∈ v, n ≤ 9223372036854775807) : Takes rdVec (vec v) v := by
 have h1 := takes_vers (ends_nn hb) (by have := ends_le v; omega)
 have h2 := (Takes.bnd h1 (k := fun l => ret (Vec.ofl l)) (Takes.ret _)).eq (List.append_nil _)
 rw [Vec.ofl_ends, Vec.plain_clean h] at h2
 exact h2
theorem rdVer_nn (l : List UInt8) (e : Int) : NnV (rdVer l e).1 := ⟨rn_nonneg _ _, rn_nonneg _ _⟩
theorem rdVers_nn (l : List UInt8) (e : Int) : ∀ v ∈ (rdVers l e).1, NnV v := list_all (m := l.length) (fun t _ => rdVer_nn t 0) l e (Nat.le_refl _)
theorem rdVer_never : Never rdVer := by show (rdVer [] 0).2.2 ≠ 0; decide +kernel
theorem rdVers_len (l : List UInt8) (e : Int) : (rdVers l e).1.length ≤ l.length := list_len rdVer_never l e
theorem rdVec_plain (l : List UInt8) (e : Int) : Vec.Plain (rdVec l e).1 := Vec.ofl_plain _
theorem rdVer_left (l : List UInt8) (e : Int) : (rdVer l e).2.1.length ≤ l.length := Nat.le_trans (rn_left _ _) (rn_left _ _)
def OkVec (v : List Int) : Prop := Vec.clean v = v
instance (v : List Int) : Decidable (OkVec v) := inferInstanceAs (Decidable (_ = _))
def OkItems (l : List Ver.V) : Prop := (∀ x ∈ l, Ver.Right x) ∧ Ver.sort l = l
instance (l : List Ver.V) : Decidable (OkItems l) := inferInstanceAs (Decidable (_ ∧ _))
theorem okVec_plain {v : List Int} : OkVec v ↔ Vec.Plain v := ⟨fun h => by have := Vec.clean_plain v; rwa [show Vec.clean v = v from h] at this, Vec.plain_clean⟩
def putVec (v : List Int) : List UInt8 × Int := putOf (OkVec v) (vec v)
def putItems (l : List Ver.V) : List UInt8 × Int := putOf (OkItems l) (vers l)
def getVec (s : List UInt8) : List Int × Int := getOf rdVec putVec (List.replicate 65 0) s
def getItems (s : List UInt8) : List Ver.V × Int := getOf rdVers putItems [] s
end Go.Proofs.Ytpafpegcodempaa.Pck
namespace Go.Proofs.Ytpafpegcodempaa.Pth
abbrev Tx := List UInt8
def Covers (p s : Tx) : Prop := p = [] ∨ p = s ∨ (p.length < s.length ∧ s.take p.length = p ∧ s[p.length]? = some 47)
instance (p s : Tx) : Decidable (Covers p s) := inferInstanceAs (Decidable (_ ∨ _))
def okChar (c : UInt8) : Bool := (97 ≤ c.toNat && c.toNat ≤ 122) || (48 ≤ c.toNat && c.toNat ≤ 57) || c.toNat == 45 || c.toNat == 95 || c.toNat == 46
def dots (s : Tx) : Nat := s.countP fun c => c.toNat == 46
def Name (s : Tx) : Prop := (∀ c ∈ s, okChar c = true) ∧ 1 ≤ s.length ∧ s.length ≤ 12 ∧ dots s < s.length
instance (s : Tx) : Decidable (Name s) := inferInstanceAs (Decidable (_ ∧ _))
def splitA : Tx → Tx → List Tx
 | cur, [] => [cur]
 | cur, c :: s => if c.toNat = 47 then cur :: splitA [] s else splitA (cur ++ [c]) s
def split (s : Tx) : List Tx := splitA [] s
def Right (s : Tx) : Prop := (∀ n ∈ split s, Name n) ∧ s.length ≤ 40 ∧ (split s).length ≤ 6
instance (s : Tx) : Decidable (Right s) := inferInstanceAs (Decidable (_ ∧ _))
def join : List Tx → Tx
 | [] => []
 | [a] => a
 | a :: b :: l => a ++ 47 :: join (b :: l)
def Joins (l : List Tx) : Prop := l ≠ [] ∧ (∀ n ∈ l, Name n) ∧ Right (join l)
instance (l : List Tx) : Decidable (Joins l) := inferInstanceAs (Decidable (_ ∧ _))
end Go.Proofs.Ytpafpegcodempaa.Pth
namespace Go.Proofs.Ytpafpegcodempaa.Sz
abbrev Rg := Int × Int
def holds (l : List Rg) (n : Int) : Bool := decide (0 ≤ n ∧ n ≤ 200) && l.any fun r => decide (r.1 ≤ n ∧ n ≤ r.2)
def of (l : List Rg) : List Bool := (List.range 201).map fun (k : Nat) => holds l (k : Int)
def formR : Nat → Option Nat → List Bool → List Rg
 | _, none, [] => []
 | k, some lo, [] => [((lo : Int), (k : Int) - 1)]
 | k, none, false :: b => formR (k + 1) none b
 | k, none, true :: b => formR (k + 1) (some k) b
 | k, some lo, true :: b => formR (k + 1) (some lo) b
 | k, some lo, false :: b => ((lo : Int), (k : Int) - 1) :: formR (k + 1) none b
def form (b : List Bool) : List Rg := formR 0 none b
def norm (l : List Rg) : List Rg := form (of l)
def pick (k : Nat) (x y : Bool) : Bool := if k = 0 then x || y else if k = 1 then x && y else x && !y
def two (k : Nat) (a b : List Rg) : List Rg := form ((List.range 201).map fun (i : Nat) => pick k (holds a (i : Int)) (holds b (i : Int)))
def Covers (a b : List Rg) : Prop := ∀ n : Int, holds b n = true → holds a n = true
theorem holds_out {l : List Rg} {n : Int} (h : ¬ (0 ≤ n ∧ n ≤ 200)) : holds l n = false := by
 unfold holds
 rw [decide_eq_false h]
 rfl
theorem holds_cons (r : Rg) (l : List Rg) (n : Int) : holds (r :: l) n = ((decide (0 ≤ n ∧ n ≤ 200) && decide (r.1 ≤ n ∧ n ≤ r.2)) || holds l n) := by
 unfold holds
 rw [List.any_cons]
 cases decide (0 ≤ n ∧ n ≤ 200) <;> simp
theorem holds_nil (n : Int) : holds [] n = false := by simp [holds]
theorem of_same {a b : List Rg} (h : ∀ n, holds a n = holds b n) : of a = of b := by
 unfold of
 exact List.map_congr_left (fun k _ => h k)
theorem formR_none : ∀ (b : List Bool) (k : Nat), formR k none b = [] ↔ ∀ x ∈ b, x = false
 | [], k => by simp [formR]
 | false :: b, k => by
  unfold formR
  rw [formR_none b (k + 1)]
  simp
 | true :: b, k => by
  constructor
  ·intro h
   exfalso
   have hne : ∀ (b : List Bool) (k lo : Nat), formR k (some lo) b ≠ [] := by
    intro b
    induction b with
    | nil => intro k lo; simp [formR]
    | cons x b ih =>
     intro k lo
     cases x
     ·simp [formR]
     ·show formR (k + 1) (some lo) b ≠ []
      exact ih _ _
   exact hne b (k + 1) k h
  ·intro h
   have := h true (by simp)
   cases this
theorem covers_iff (a b : List Rg) : Covers a b ↔ two 2 b a = [] := by
 unfold two form
 rw [formR_none]
 constructor
 ·intro h x hx
  obtain ⟨k, hk, rfl⟩ := List.mem_map.1 hx
  show pick 2 (holds b (k : Int)) (holds a (k : Int)) = false
  have := h (k : Int)
  cases hb : holds b (k : Int)
  ·rfl
  ·rw [this hb]; rfl
 ·intro h n hb
  by_cases hn : 0 ≤ n ∧ n ≤ 200
  ·have := h _ (List.mem_map.2 ⟨n.toNat, List.mem_range.2 (show n.toNat < 201 by omega), rfl⟩)
   have e : ((n.toNat : Nat) : Int) = n := by omega
   rw [e, hb] at this
   cases ha : holds a n
   ·rw [ha] at this; cases this
   ·rfl
  ·rw [holds_out hn] at hb; cases hb
instance (a b : List Rg) : Decidable (Covers a b) := decidable_of_iff _ (covers_iff a b).symm
end Go.Proofs.Ytpafpegcodempaa.Sz
namespace Go.Proofs.Ytpafpegcodempaa.Flt
abbrev Tx := List UInt8
structure Cl where
 pre : Tx
 lo : Int
 hi : Int
deriving DecidableEq
def rg (c : Cl) : Sz.Rg := (c.lo, c.hi)
def Right (c : Cl) : Prop := (c.pre = [] ∨ Pth.Right c.pre) ∧ 0 ≤ c.lo ∧ c.lo ≤ c.hi ∧ c.hi ≤ 200
instance (c : Cl) : Decidable (Right c) := inferInstanceAs (Decidable (_ ∧ _))
def sizes (f : List Cl) (p : Tx) : List Sz.Rg := (f.filter fun c => decide (Pth.Covers c.pre p)).map rg
def ins (out : List Tx) (p : Tx) : List Tx := if (out.dropWhile fun q => decide (q < p)).head? = some p then out else out.takeWhile (fun q => decide (q < p)) ++ p :: out.dropWhile fun q => decide (q < p)
def prefixes (f : List Cl) : List Tx := f.foldl (fun out c => ins out c.pre) []
def above (f : List Cl) (p : Tx) : List Cl := f.filter fun c => decide (c.pre ≠ p ∧ Pth.Covers c.pre p)
def piece (f : List Cl) (p : Tx) : List Sz.Rg := Sz.two 2 (sizes f p) (sizes (above f p) p)
def clauses (p : Tx) (l : List Sz.Rg) : List Cl := l.map fun r => ⟨p, r.1, r.2⟩
def norm (f : List Cl) : List Cl := (prefixes f).flatMap fun p => clauses p (piece f p)
theorem tlt_irrefl (a : Tx) : ¬ a < a := List.lt_irrefl a
theorem tlt_trans {a b c : Tx} (h : a < b) (k : b < c) : a < c := List.lt_trans h k
def Up (l : List Tx) : Prop := l.Pairwise (· < ·)
theorem take_lt : ∀ {l : List Tx} {p : Tx}, ∀ q ∈ l.takeWhile (fun q => decide (q < p)), q < p := by
 intro l p
 induction l with
 | nil => intro q hq; cases hq
 | cons x l ih =>
  intro q hq
  by_cases hx : x < p
  ·rw [List.takeWhile_cons_of_pos (by simpa using hx)] at hq
   rcases List.mem_cons.1 hq with e | e
   ·rw [e]; exact hx
   ·exact ih q e
  ·rw [List.takeWhile_cons_of_neg (by simpa using hx)] at hq
   cases hq
theorem drop_ge {l : List Tx} (h : Up l) {p : Tx} : ∀ q ∈ l.dropWhile (fun q => decide (q < p)), ¬ q < p := by
 induction l with
 | nil => intro q hq; cases hq
 | cons x l ih =>
  intro q hq
  have hl := (List.pairwise_cons.1 h)
  by_cases hx : x < p
  ·rw [List.dropWhile_cons_of_pos (by simpa using hx)] at hq
   exact ih hl.2 q hq
  ·rw [List.dropWhile_cons_of_neg (by simpa using hx)] at hq
   rcases List.mem_cons.1 hq with e | e
   ·rw [e]; exact hx
   ·exact fun hh => hx (tlt_trans (hl.1 q e) hh)
theorem up_same : ∀ {l m : List Tx}, Up l → Up m → (∀ x, x ∈ l ↔ x ∈ m) → l = m := by
 intro l m hl hm h
 refine List.Perm.eq_of_pairwise (le := fun a b : Tx => a < b) (fun a b _ _ h1 h2 => absurd (tlt_trans h1 h2) (tlt_irrefl a)) hl hm ?_
 rw [List.perm_ext_iff_of_nodup (hl.imp (fun {a b} hab e => by subst e; exact tlt_irrefl _ hab)) (hm.imp (fun {a b} hab e => by subst e; exact tlt_irrefl _ hab))]
 exact h
end Go.Proofs.Ytpafpegcodempaa.Flt
namespace Go.Proofs.Ytpafpegcodempaa
open Go.RowKit
def rgV (r : Sz.Rg) : List Value := [.int .i64 r.1, .int .i64 r.2]
abbrev Rgs (w : World) (F : Nat → Prop) (v : Value) (l : List Sz.Rg) : Prop := Rws 2 rgV w F v l
def Bd (r : Sz.Rg) : Prop := -9223372036854775808 ≤ r.1 ∧ r.1 ≤ 9223372036854775807 ∧ -9223372036854775808 ≤ r.2 ∧ r.2 ≤ 9223372036854775807
theorem Rgs.at {w : World} {F : Nat → Prop} {b o : Nat} {n cap : Nat} {l : List Sz.Rg} (h : Rgs w F (.slice (some ⟨b, o, none⟩) n cap) l) {i : Nat} {x : Sz.Rg} (hx : l[i]? = some x) :
  w.cell? ⟨b, o + i * 2, none⟩ = some (.int .i64 x.1) ∧ w.cell? ⟨b, o + i * 2 + 1, none⟩ = some (.int .i64 x.2) := by
 obtain ⟨A, c, e, -, hat⟩ := h
 injection e with e1 e2 e3
 obtain ⟨b', o', e, -, -, hc⟩ := hat (by obtain ⟨hl, _⟩ := List.getElem?_eq_some_iff.1 hx; omega)
 rw [e] at e1
 injection e1 with e1
 injection e1 with e1 e2
 subst e1 e2
 exact ⟨hc i x hx 0 _ rfl, hc i x hx 1 _ rfl⟩
theorem Rgs.slice {w : World} {F : Nat → Prop} {v : Value} {l : List Sz.Rg} (h : Rgs w F v l) : ∃ A cap, v = .slice A l.length cap ∧ l.length ≤ cap := by
 obtain ⟨A, c, e, hc, hat⟩ := h
 exact ⟨A, c, e, hc⟩
open Go.RowKit
theorem Cells.below {w w' : World} {F : Nat → Prop} {v : Value} {us : List Value} (h : Cells w F v us) (k : Below w.heap.size w w') : Cells w' F v us := h.kept (Kept.ofBelow k (fun _ => False)) (fun _ _ h => h)
theorem own_below {w w' : World} {base t size n : Nat} {v : Value} {xs : List Value} (h : w.ownsRow base t size v n xs) (k : Below w.heap.size w w') : w'.ownsRow base t size v n xs :=
 h.kept (Kept.ofBelow k (fun i => i = w.heap.size)).grown (Or.inr (fun e => by have := (h.lt _ e).2; omega))
def TextsOwn (w : World) (out : List (List UInt8)) (v : Value) (wr : World) : Prop := wr.ownsRow w.heap.size 9 1 v out.length (texts out) ∧ Below w.heap.size w wr
theorem TextsOwn.below {w w1 w2 : World} {out : List (List UInt8)} {v : Value} (h : TextsOwn w out v w1) (k : Below w1.heap.size w1 w2) : TextsOwn w out v w2 := ⟨own_below h.1 k, h.2.trans (k.mono h.2.size)⟩
theorem TextsOwn.cells {w w' : World} {out : List (List UInt8)} {v : Value} (h : TextsOwn w out v w') : Cells w' (NewIn w w') v (texts out) := Cells.ofOwn h.1 (fun _ _ h1 h2 => ⟨h1, h2⟩)
open Go.RowKit
open Go.RowKit
open Go.RowKit
def clV (c : Flt.Cl) : List Value := [.string (mk c.pre), .int .i64 c.lo, .int .i64 c.hi]
abbrev Cls (w : World) (F : Nat → Prop) (v : Value) (l : List Flt.Cl) : Prop := Rws 3 clV w F v l
def Flt.Bd (c : Flt.Cl) : Prop := c.pre.length ≤ 100000 ∧ Go.Proofs.Ytpafpegcodempaa.Bd (Flt.rg c)
def Flt.first : List Flt.Cl → Int
 | [] => 0
 | c :: l => if c.pre ≠ [] ∧ ¬ Pth.Right c.pre then 13 else if Flt.Right c then Flt.first l else 2
def Flt.check (f : List Flt.Cl) : Int := if 8 < f.length then 4 else Flt.first f
def Flt.whole : List Flt.Cl := [⟨[], 0, 200⟩]
theorem Cls.at {w : World} {F : Nat → Prop} {b o : Nat} {n cap : Nat} {l : List Flt.Cl} (h : Cls w F (.slice (some ⟨b, o, none⟩) n cap) l) {i : Nat} {x : Flt.Cl} (hx : l[i]? = some x) :
  w.cell? ⟨b, o + i * 3, none⟩ = some (.string (mk x.pre)) ∧ w.cell? ⟨b, o + i * 3 + 1, none⟩ = some (.int .i64 x.lo) ∧ w.cell? ⟨b, o + i * 3 + 2, none⟩ = some (.int .i64 x.hi) := by
 obtain ⟨A, c, e, -, hat⟩ := h
 injection e with e1 e2 e3
 obtain ⟨b', o', e, -, -, hc⟩ := hat (by obtain ⟨hl, _⟩ := List.getElem?_eq_some_iff.1 hx; omega)
 rw [e] at e1
 injection e1 with e1
 injection e1 with e1 e2
 subst e1 e2
 exact ⟨hc i x hx 0 _ rfl, hc i x hx 1 _ rfl, hc i x hx 2 _ rfl⟩
end Go.Proofs.Ytpafpegcodempaa
namespace Go.Proofs.Ytpafpegcodempaa.Pck
def cl (c : Flt.Cl) : List UInt8 := txt c.pre ++ (num c.lo ++ num c.hi)
def OkFlt (f : List Flt.Cl) : Prop := f.length ≤ 64 ∧ ∀ c ∈ f, Flt.Right c
instance (f : List Flt.Cl) : Decidable (OkFlt f) := inferInstanceAs (Decidable (_ ∧ _))
end Go.Proofs.Ytpafpegcodempaa.Pck
namespace Go.Proofs.Ytpafpegcodempaa
open Go.RowKit
def Near (w : World) (v v' : Value) : Prop := v'.ownBlock = v.ownBlock ∨ ∀ g, v'.ownBlock = some g → w.heap.size ≤ g
theorem Near.refl (w : World) (v : Value) : Near w v v := Or.inl rfl
section
variable {P : Program} {α : Type} {k : Nat} {f : α → List Value}
theorem append_near {w : World} (base : Nat) (t ty e : TypeId) (i : TypeInfo) (z : Value) (size bytes : Nat) (ht : P.underlying t = some (.slice e)) (hi : P.info? e = some i) (hz : i.zero = some z)
    (hsize : i.size = size) (hby : i.bytes = bytes) (hzs : z.cells.size = size) (hsz : 0 < size) {v : Value} {n : Nat} {xs : List Value} (hown : w.ownsRow base e size v n xs)
    (a : Addr) (m c : Nat) (news : List Value) (hl : news.length = m * size) (hnews : ∀ j u, news[j]? = some u → w.cell? (a.add j) = some u) (h1 : ∀ u ∈ news, u.oneCell' = true)
    (h63 : n + m ≤ maxLen) (hbytes : (n + m) * bytes ≤ 140737488355328) {v' : Value} {w' : World} (hr : (Builtin.append_ #[t, t] ty #[v, .slice (some a) m c]).run P w = .ok v' w') : Near w v v' := by
  have hsmall : n + m ≤ 9223372036854775807 := by simp only [maxLen] at h63; omega
  rcases hown.2 with ⟨rfl, rfl⟩ | ⟨g, cap, cur, rfl, hbg, hg, hnc, hcm, hcs, htake⟩
  · obtain ⟨v2, w2, r1, r2, -, -⟩ := run_append_own w w.heap.size t ty e i z size bytes ht hi hz hsize hby hzs hsz (.slice none 0 0) 0 [] (World.ownsRow_nil _ _ _ _) a m c news hl hnews h1 h63 hbytes (Nat.le_refl _)
    rw [hr] at r1
    injection r1 with e1 e2
    subst e1
    exact Or.inr (fun g hg => (r2.lt g hg).1)
  · subst hsize
    subst hby
    by_cases hroom : n + m ≤ cap
    · have hfit : n * i.size + news.length ≤ cur.size := by rw [hl, hcs, ← Nat.add_mul]; exact Nat.mul_le_mul_right _ hroom
      have r1 := run_append_room (P := P) w t ty e i ht hi g n cap cur hg a m c news hl hnews h1 hroom hfit
      rw [hr] at r1
      injection r1 with e1 e2
      subst e1
      exact Or.inl rfl
    · have r1 := run_append_grow (P := P) w t ty e i z ht hi hz ⟨g, 0, none⟩ n cap xs hown.1 (hown.cells (g := g) rfl) a m c news hl hnews (by omega) (by omega) (growslice_fits (by omega) hbytes)
      rw [hr] at r1
      injection r1 with e1 e2
      subst e1
      exact Or.inr (fun g' hg' => by have : w.heap.size = g' := by simpa [Value.ownBlock] using hg'
                                     omega)
theorem join_near {w : World} (base : Nat) (t ty e : TypeId) (i : TypeInfo) (z : Value) (bytes : Nat) (ht : P.underlying t = some (.slice e)) (hi : P.info? e = some i) (hz : i.zero = some z) (hsize : i.size = k) (hby : i.bytes = bytes) (hzs : z.cells.size = k) (hsz : 0 < k)
  {v xv : Value} {n : Nat} {xs : List Value} {F : Nat → Prop} {l : List α} (hown : w.ownsRow base e k v n xs) (hx : Rws k f w F xv l) (hk : ∀ x ∈ l, (f x).length = k) (h1 : ∀ x ∈ l, ∀ u ∈ f x, u.oneCell' = true)
  (h63 : n + l.length ≤ maxLen) (hbytes : (n + l.length) * bytes ≤ 140737488355328) (hbase : base ≤ w.heap.size) :
  ∃ v' w', (Builtin.append_ #[t, t] ty #[v, xv]).run P w = .ok v' w' ∧ w'.ownsRow base e k v' (n + l.length) (xs ++ l.flatMap f) ∧ w.grownBy w' v.ownBlock ∧ Near w v v' := by
 obtain ⟨v', w', r1, r2, r3⟩ := join_rows (P := P) base t ty e i z bytes ht hi hz hsize hby hzs hsz hown hx hk h1 h63 hbytes hbase
 refine ⟨v', w', r1, r2, r3, ?_⟩
 obtain ⟨A, c, rfl, hc, hat⟩ := hx
 have hone : ∀ u ∈ l.flatMap f, u.oneCell' = true := by
  intro u hu
  obtain ⟨x, hx, hu⟩ := List.mem_flatMap.1 hu
  exact h1 x hx u hu
 have hgo : ∀ ad : Addr, A = some ad → (∀ j u, (l.flatMap f)[j]? = some u → w.cell? (ad.add j) = some u) → Near w v v' := by
  rintro ad rfl hnews
  exact append_near base t ty e i z k bytes ht hi hz hsize hby hzs hsz hown ad l.length c (l.flatMap f) (rows_len l hk) hnews hone h63 hbytes r1
 by_cases h0 : 0 < l.length
 ·obtain ⟨b, o, rfl, -, hbl, hcell⟩ := hat h0
  refine hgo _ rfl (fun j u hu => ?_)
  obtain ⟨m, x, r, e1, e2, rfl⟩ := rows_of l hk j u hu
  rw [Go.WideShapes.add_plain, ← Nat.add_assoc]
  exact hcell m x e1 r u e2
 ·have hl : l = [] := List.eq_nil_of_length_eq_zero (by omega)
  subst hl
  cases A with
  | none =>
   have r4 := join_nothing (P := P) base t ty e i k c ht hi v n xs hown
   rw [show ([] : List α).length = 0 from rfl, r4] at r1
   injection r1 with e1 e2
   exact Or.inl (by rw [e1])
  | some ad => exact hgo ad rfl (fun j u hu => by simp at hu)
theorem wp_joins {ops : Array Oper} {rest : List Oper} {o : Oper} {a : Act} {w : World} {Q : Exit → Act → World → Prop} (hgd : o.guard = none) (s x : Operand) (t : TypeId)
  (ho : o.op = .call { callee := .builtin .append, args := #[s, x], argTypes := #[t, t] }) (base : Nat) (e : TypeId) (i : TypeInfo) (z : Value) (bytes : Nat) (ht : P.underlying t = some (.slice e)) (hi : P.info? e = some i) (hz : i.zero = some z)
  (hsize : i.size = k) (hby : i.bytes = bytes) (hzs : z.cells.size = k) (hsz : 0 < k) {v xv : Value} {n : Nat} {xs : List Value} {F : Nat → Prop} {l : List α} (hs : a.eval s = v) (hx : a.eval x = xv)
  (hown : w.ownsRow base e k v n xs) (hr : Rws k f w F xv l) (hk : ∀ x ∈ l, (f x).length = k) (h1 : ∀ x ∈ l, ∀ u ∈ f x, u.oneCell' = true) (h63 : n + l.length ≤ maxLen) (hbytes : (n + l.length) * bytes ≤ 140737488355328) (hbase : base ≤ w.heap.size)
  (h : ∀ v' w', w'.ownsRow base e k v' (n + l.length) (xs ++ l.flatMap f) → w.grownBy w' v.ownBlock → Near w v v' → wpList P ops Q rest (a.put o.dst v') w') : wpList P ops Q (o :: rest) a w :=
 wpList_plain hgd fun _ hK => by
  obtain ⟨v', w', r1, r2, r3, r4⟩ := join_near (P := P) base t o.type e i z bytes ht hi hz hsize hby hzs hsz hown hr hk h1 h63 hbytes hbase
  unfold Oper.wp execOp
  simp only [ho, resolve, invoke, builtin, Sem.run_bind, Sem.run_pure, Result.andThen_ok, List.map_toArray, List.map_cons, List.map_nil, hs, hx, r1]
  exact hK _ _ (h v' w' r2 r3 r4)
theorem step_near {ops : Array Oper} {o : Oper} {a : Act} {w : World} {K : Act → World → Prop} {Q : Exit → Act → World → Prop} {E : Prop} (hgd : o.guard = none) (s x : Operand) (t : TypeId)
  (ho : o.op = .call { callee := .builtin .append, args := #[s, x], argTypes := #[t, t] }) (base : Nat) (e : TypeId) (i : TypeInfo) (z : Value) (bytes : Nat) (ht : P.underlying t = some (.slice e)) (hi : P.info? e = some i) (hz : i.zero = some z)
  (hsize : i.size = k) (hby : i.bytes = bytes) (hzs : z.cells.size = k) (hsz : 0 < k) {v xv : Value} {n : Nat} {xs : List Value} {F : Nat → Prop} {l : List α} (hs : a.eval s = v) (hx : a.eval x = xv)
  (hown : w.ownsRow base e k v n xs) (hr : Rws k f w F xv l) (hk : ∀ x ∈ l, (f x).length = k) (h1 : ∀ x ∈ l, ∀ u ∈ f x, u.oneCell' = true) (h63 : n + l.length ≤ maxLen) (hbytes : (n + l.length) * bytes ≤ 140737488355328) (hbase : base ≤ w.heap.size)
  (h : ∀ v' w', w'.ownsRow base e k v' (n + l.length) (xs ++ l.flatMap f) → w.grownBy w' v.ownBlock → Near w v v' → K (a.put o.dst v') w') :
  if Region.wanted o (yielded ops a.tmps) = true then Oper.wp P o a w K Q else E := by
 rw [if_pos (by simp [Region.wanted, hgd])]
 obtain ⟨v', w', r1, r2, r3, r4⟩ := join_near (P := P) base t o.type e i z bytes ht hi hz hsize hby hzs hsz hown hr hk h1 h63 hbytes hbase
 unfold Oper.wp execOp
 simp only [ho, resolve, invoke, builtin, Sem.run_bind, Sem.run_pure, Result.andThen_ok, List.map_toArray, List.map_cons, List.map_nil, hs, hx, r1]
 exact h v' w' r2 r3 r4
end
open Go.RowKit
section
variable {w : World} {base e size n cap g : Nat} {xs : List Value}
theorem own_front (h : w.ownsRow base e size (.slice (some ⟨g, 0, none⟩) n cap) n xs) {m : Nat} (hm : m ≤ n) : w.ownsRow base e size (.slice (some ⟨g, 0, none⟩) m cap) m (xs.take (m * size)) := by
 have hle : m * size ≤ n * size := Nat.mul_le_mul_right _ hm
 refine ⟨by rw [List.length_take, h.1]; omega, ?_⟩
 rcases h.2 with ⟨h', _⟩ | ⟨g', cap', cur, h', hb, hg, hnc, hcm, hcs, htake⟩
 ·simp at h'
 ·simp only [Value.slice.injEq, Option.some.injEq, Addr.mk.injEq, and_true, true_and] at h'
  obtain ⟨rfl, rfl⟩ := h'
  refine .inr ⟨g, cap, cur, rfl, hb, hg, Nat.le_trans hm hnc, hcm, hcs, ?_⟩
  rw [← htake, List.take_take, Nat.min_eq_left hle]
theorem own_beyond (h : w.ownsRow base e size (.slice (some ⟨g, 0, none⟩) n cap) n xs) {j : Nat} (hj : n * size ≤ j) (u : Value) :
  (w.setCell ⟨g, j, none⟩ u).ownsRow base e size (.slice (some ⟨g, 0, none⟩) n cap) n xs ∧ w.grownBy (w.setCell ⟨g, j, none⟩ u) (some g) := by
 have := h.stored j u
 rw [List.set_eq_of_length_le (by rw [h.1]; exact hj)] at this
 exact this
theorem own_beyonds : ∀ (vs : List Value) (j : Nat) (w : World), w.ownsRow base e size (.slice (some ⟨g, 0, none⟩) n cap) n xs → n * size ≤ j →
  (w.setCells g j vs).ownsRow base e size (.slice (some ⟨g, 0, none⟩) n cap) n xs ∧ w.grownBy (w.setCells g j vs) (some g)
 | [], j, w, h, _ => ⟨h, gb_refl _ _⟩
 | v :: vs, j, w, h, hj => by
  obtain ⟨h1, h2⟩ := own_beyond h hj v
  obtain ⟨h3, h4⟩ := own_beyonds vs (j + 1) _ h1 (by omega)
  exact ⟨h3, gb_trans h2 h4⟩
theorem own_clear {P : Program} {t : TypeId} {z : Value} (h : w.ownsRow base e size (.slice (some ⟨g, 0, none⟩) n cap) n xs) {m : Nat} (hm : m < n) (ht : P.underlying t = some (.slice e)) (hv : ∀ w, (zeroValue e).run P w = .ok z w) (hz : z.cells.size = size) (h1 : ∀ u ∈ z.cells.toList, u.oneCell' = true) (c : Nat) :
  ∃ w', (∀ ty, (Builtin.clear_ #[t] ty #[.slice (some ⟨g, m * size, none⟩) (n - m) c]).run P w = .ok (.tuple #[]) w') ∧ w'.ownsRow base e size (.slice (some ⟨g, 0, none⟩) m cap) m (xs.take (m * size)) ∧ w.grownBy w' (some g) := by
 have hlen : (Builtin.zeroCells z.cells (n - m)).toList.length = (n - m) * size := by simp [Builtin.zeroCells, hz]
 have hrow : m * size + (n - m) * size = n * size := by rw [← Nat.add_mul]; congr 1; omega
 have hone : ∀ u ∈ (Builtin.zeroCells z.cells (n - m)).toList, u.oneCell' = true := by
  intro u hu
  unfold Builtin.zeroCells at hu
  rw [Array.toList_map, List.mem_map] at hu
  obtain ⟨i, hi, rfl⟩ := hu
  have hi : i < (n - m) * z.cells.size := by simpa using hi
  have hpos : 0 < z.cells.size := by
   rcases Nat.eq_zero_or_pos z.cells.size with h0 | h0
   ·rw [h0] at hi; omega
   ·exact h0
  have hlt : i % z.cells.size < z.cells.size := Nat.mod_lt _ hpos
  refine h1 _ ?_
  rw [getElem!_pos z.cells _ hlt]
  exact Array.getElem_mem_toList _
 have hst := run_storeCells_cells (P := P) g (m * size) (Builtin.zeroCells z.cells (n - m)).toList 0 w (fun j hj => by
   rw [hlen] at hj
   rw [Nat.add_zero, h.cellAt (m * size + j) (by omega)]
   have : m * size + j < xs.length := by rw [h.1]; omega
   simp [this]) (fun j _ => h.frozenAt _) hone
 rw [Nat.add_zero] at hst
 obtain ⟨r1, r2⟩ := own_beyonds (Builtin.zeroCells z.cells (n - m)).toList (m * size) w (own_front h (Nat.le_of_lt hm)) (Nat.le_refl _)
 refine ⟨_, fun ty => ?_, r1, r2⟩
 obtain ⟨k, hk⟩ : ∃ k, n - m = k + 1 := ⟨n - m - 1, by omega⟩
 rw [hk] at hst ⊢
 simp [Builtin.clear_, run_underlying ht, hv, hst]
end
theorem getI_of {α : Type} [Inhabited α] {l : List α} {i : Nat} {x : α} (h : l[i]? = some x) : l.toArray[i]! = x := by
 obtain ⟨hl, e⟩ := List.getElem?_eq_some_iff.1 h
 rw [getElem!_pos l.toArray i (by simpa using hl)]
 simpa using e
theorem getI_to {α : Type} [Inhabited α] (d : Array α) {i : Nat} (h : i < d.size) : d.toList[i]? = some d[i]! := by
 rw [Array.getElem?_toList, Array.getElem?_eq_getElem h, getElem!_pos d i h]
open Go.RowKit
structure Lies (ty : TypeId) (w : World) (b o : Nat) (cs : List Value) : Prop where
 at_ : w.rangeAt b o cs
 row : ∃ d, Try.prog.underlying ty = some d ∧ d.isRow = true
 size : (Try.prog.info? ty).map (·.size) = some cs.length
section
variable {w w' : World} {b o : Nat} {cs : List Value} {ty : TypeId}
theorem Lies.run (h : Lies ty w b o cs) : (Instr.loadAt ty (.pointer (some ⟨b, o, none⟩))).run Try.prog w = .ok (.agg cs.toArray) w := by
 obtain ⟨d, hu, hd⟩ := h.row
 simp only [Instr.loadAt, Instr.sureAddr, Sem.run_bind, Sem.run_pure, Result.andThen_ok, run_loadVar_mid w b o ty cs d h.at_ hu hd h.size]
theorem Lies.below {B : Nat} (h : Lies ty w b o cs) (hb : Below B w w') (hB : b < B) : Lies ty w' b o cs := ⟨fun j v hv => (hb.cell (p := ⟨b, o + j, none⟩) hB).trans (h.at_ j v hv), h.row, h.size⟩
theorem Lies.inB (h : Lies ty w b o cs) (hb : b < w.heap.size) (k : InB w w') : Lies ty w' b o cs := h.below k.below hb
theorem row_store {old : Array Value} {t : TypeId} (hrow : Row w b t old) (hi : (Try.prog.info? ty).map (·.size) = some cs.length) (hs : old.size = cs.length) (h1 : ∀ u ∈ cs, u.oneCell' = true) : (Instr.storeAt ty (.pointer (some ⟨b, 0, none⟩)) (.agg cs.toArray)).run Try.prog w = .ok () (w.setRow b cs.toArray) := by
 simp only [Instr.storeAt, Instr.sureAddr, Sem.run_bind, Sem.run_pure, Result.andThen_ok]
 exact run_storeVar_row (P := Try.prog) _ b t ty old cs.toArray hrow (by simpa using hi) (by simpa using hs) (all_oneCell_toArray h1)
theorem row_set {old cs : Array Value} {t : TypeId} (hrow : Row w b t old) : Row (w.setRow b cs) b t cs := setRow_heap w b old cs t (0, 0) hrow
end
section
variable {w : World} {b o : Nat} {F : Nat → Prop}
theorem range_row {t : TypeId} {cs : List Value} (h : Row w b t cs.toArray) : w.rangeAt b 0 cs := fun j u hu => by
 rw [Nat.zero_add, h.at, List.getElem?_toArray]; exact hu
end
theorem Kept.setRowK (w : World) (b : Nat) (cs : Array Value) : Kept (fun i => i = b) w (w.setRow b cs) :=
 ⟨rfl, rfl, rfl, by show w.heap.size ≤ (w.heap.modify b _).size; simp, fun k _ hn => by
  show (w.heap.modify b _)[k]? = _
  rw [Array.getElem?_modify, if_neg (fun e => hn e.symm)]⟩
section
variable {ops : Array Oper} {o : Oper} {a : Act} {w : World} {K : Act → World → Prop} {Q : Exit → Act → World → Prop} {E : Prop}
end
theorem wpList_rstore {ops : Array Oper} {rest : List Oper} {op : Oper} {a : Act} {w : World} {Q : Exit → Act → World → Prop} {ty t : TypeId} {b : Nat} {old : Array Value} {cs : List Value} (hw : Region.wanted op (yielded ops a.tmps) = true) (x y : Operand) (ho : op.op = .store ty x y) (hx : a.eval x = .pointer (some ⟨b, 0, none⟩)) (hy : a.eval y = .agg cs.toArray)
  (hrow : Row w b t old) (hi : (Try.prog.info? ty).map (·.size) = some cs.length) (hs : old.size = cs.length) (h1 : ∀ u ∈ cs, u.oneCell' = true)
  (k : ∀ w', Row w' b t cs.toArray → Kept (fun i => i = b) w w' → wpList Try.prog ops Q rest (a.put op.dst undef) w') : wpList Try.prog ops Q (op :: rest) a w := by
 unfold wpList
 rw [if_pos hw]
 refine Or.inl ?_
 have hl := row_store (ty := ty) hrow hi hs h1
 unfold Oper.wp execOp
 simp only [ho, hx, hy, Sem.run_bind, hl, Result.andThen_ok]
 exact k _ (row_set hrow) (Kept.setRowK _ _ _)
theorem rows_made {α : Type} {k : Nat} {f : α → List Value} (w : World) (t : TypeId) (r : α) : Rws k f (w.alloc (.cells (f r).toArray t)) (NewIn w (w.alloc (.cells (f r).toArray t))) (.slice (some ⟨w.heap.size, 0, none⟩) 1 1) [r] := by
 refine ⟨_, 1, rfl, Nat.le_refl _, fun _ => ⟨w.heap.size, 0, rfl, ⟨Nat.le_refl _, by simp⟩, by simp, fun i x hx j u hu => ?_⟩⟩
 have hi : i = 0 := by obtain ⟨h, _⟩ := List.getElem?_eq_some_iff.1 hx; simpa using h
 subst hi
 have e : x = r := by simpa using hx.symm
 subst e
 have := range_row (Row.made w t (f x).toArray) j u hu
 rw [Nat.zero_add] at this
 simpa using this
def setAt (xs : List Value) (o : Nat) : List Value → List Value
 | [] => xs
 | v :: r => setAt (xs.set o v) (o + 1) r
theorem setAt_mid (A B : List Value) : ∀ (us C : List Value) (j : Nat), j + us.length ≤ C.length → setAt (A ++ C ++ B) (A.length + j) us = A ++ setAt C j us ++ B
 | [], _, _, _ => rfl
 | v :: r, C, j, h => by
  have h : j + (r.length + 1) ≤ C.length := h
  show setAt ((A ++ C ++ B).set (A.length + j) v) (A.length + j + 1) r = A ++ setAt (C.set j v) (j + 1) r ++ B
  rw [List.append_assoc, List.set_append_right _ _ (by omega), show A.length + j - A.length = j by omega, List.set_append_left _ _ (by omega), ← List.append_assoc, Nat.add_assoc]
  exact setAt_mid A B r (C.set j v) (j + 1) (by rw [List.length_set]; omega)
section
variable {α : Type} {f : α → List Value} {k : Nat}
theorem kn_flat_at {l : List α} (hk : ∀ x ∈ l, (f x).length = k) {i : Nat} {x : α} (hx : l[i]? = some x) : l.flatMap f = (l.take i).flatMap f ++ f x ++ (l.drop (i + 1)).flatMap f ∧ ((l.take i).flatMap f).length = i * k := by
 obtain ⟨h, e⟩ := List.getElem?_eq_some_iff.1 hx
 constructor
 ·have e2 : l = l.take i ++ x :: l.drop (i + 1) := by rw [← e, List.getElem_cons_drop, List.take_append_drop]
  conv => lhs; rw [e2]
  rw [List.flatMap_append, List.flatMap_cons, List.append_assoc]
 ·rw [rows_len (k := k) (f := f) _ (fun y hy => hk y (List.mem_of_mem_take hy)), List.length_take, Nat.min_eq_left (by omega)]
theorem kn_flat_set {l : List α} (hk : ∀ x ∈ l, (f x).length = k) {i : Nat} {x y : α} (hx : l[i]? = some x) (j : Nat) (us : List Value) (hj : j + us.length ≤ k) (hy : setAt (f x) j us = f y) : setAt (l.flatMap f) (i * k + j) us = (l.set i y).flatMap f := by
 obtain ⟨e1, e2⟩ := kn_flat_at hk hx
 obtain ⟨h, _⟩ := List.getElem?_eq_some_iff.1 hx
 rw [e1, ← e2, setAt_mid _ _ us (f x) j (by rw [hk x (List.mem_of_getElem? hx)]; exact hj), hy, List.set_eq_take_append_cons_drop, if_pos h, List.flatMap_append, List.flatMap_cons, List.append_assoc]
theorem own_setCells {base e size n g cap : Nat} : ∀ (us : List Value) {w : World} {xs : List Value} (j : Nat), w.ownsRow base e size (.slice (some ⟨g, 0, none⟩) n cap) n xs → (w.setCells g j us).ownsRow base e size (.slice (some ⟨g, 0, none⟩) n cap) n (setAt xs j us) ∧ w.grownBy (w.setCells g j us) (some g)
 | [], w, xs, j, h => ⟨h, rfl, rfl, rfl, Nat.le_refl _, fun _ _ _ => rfl⟩
 | u :: us, w, xs, j, h => by
  obtain ⟨h1, h2⟩ := h.stored j u
  obtain ⟨h3, h4⟩ := own_setCells us (j + 1) h1
  exact ⟨h3, gb_trans h2 h4⟩
theorem RowsOwn.putCells {t : TypeId} {w W : World} {l : List α} {g n cap : Nat} (h : RowsOwn t k f w l (.slice (some ⟨g, 0, none⟩) n cap) W) (hn : l.length = n) (hk : ∀ x ∈ l, (f x).length = k) {i : Nat} {x y : α} (hx : l[i]? = some x) (j : Nat) (us : List Value) (hj : j + us.length ≤ k) (hy : setAt (f x) j us = f y) :
  RowsOwn t k f w (l.set i y) (.slice (some ⟨g, 0, none⟩) n cap) (W.setCells g (i * k + j) us) ∧ W.grownBy (W.setCells g (i * k + j) us) (some g) := by
 subst hn
 obtain ⟨h1, h2⟩ := own_setCells us (i * k + j) h.1
 rw [kn_flat_set hk hx j us hj hy] at h1
 refine ⟨⟨by rw [List.length_set]; exact h1, h.2.grown h2 h.2.size (fun m hm => ?_)⟩, h2⟩
 injection hm with hm
 rw [← hm]
 exact (h.1.lt g rfl).1
end
end Go.Proofs.Ytpafpegcodempaa
