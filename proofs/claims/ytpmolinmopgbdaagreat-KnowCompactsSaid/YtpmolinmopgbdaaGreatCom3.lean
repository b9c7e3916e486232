import Derived.Test.YtpmolinmopgbdaaGreatCom2
import Derived.Test.YtpmolinmopgbdaaGreatCom1
import Derived.OwnWalk
import Derived.Deep.AppendLies
import Derived.Tactics
import Derived.Test.YtpmolinmopgbdaaGreatRows
import Derived.WalkKit
import Derived.ProofKit
import Derived.OpenShut
import Derived.ShutString
import Derived.SizedLaws
import Derived.Carry
import Derived.Lib.Hide
import Derived.Lib.Strings
import Derived.BigRegion
import Derived.Laws.OwnMore
import Derived.Deep.RegionLaw
import Derived.Lib.BufferRead
import Derived.Laws.BitsAllLaws
import Derived.Lib.AppendStr
import Derived.Deep.QuietTactic
import Derived.BigQuiet
import Derived.Deep.RegionWith
import Derived.WalkSpells
import Derived.Deep.Slices
set_option maxRecDepth 100000
set_option linter.unusedVariables false
set_option linter.unusedSimpArgs false
set_option maxHeartbeats 12800000
namespace Go.Proofs.YtpmolinmopgbdaaGreat
open Go.RowKit
def Rws {α : Type} (k : Nat) (f : α → List Value) (w : World) (F : Nat → Prop) (v : Value) (l : List α) : Prop :=
 ∃ A cap, v = .slice A l.length cap ∧ l.length ≤ cap ∧ (0 < l.length → ∃ b o, A = some ⟨b, o, none⟩ ∧ F b ∧ b < w.heap.size ∧ ∀ i x, l[i]? = some x → ∀ j u, (f x)[j]? = some u → w.cell? ⟨b, o + i * k + j, none⟩ = some u)
section
variable {α : Type} {k : Nat} {f : α → List Value} {w w' : World} {F G : Nat → Prop} {v : Value} {l : List α}
theorem Rws.none (w : World) (F : Nat → Prop) (c : Nat) : Rws k f w F (.slice none 0 c) [] := ⟨Option.none, c, rfl, Nat.zero_le _, fun h => absurd h (by simp)⟩
theorem Rws.empty (w : World) (F : Nat → Prop) (A : Option Addr) (c : Nat) : Rws k f w F (.slice A 0 c) [] := ⟨A, c, rfl, Nat.zero_le _, fun h => absurd h (by simp)⟩
theorem Rws.kept (h : Rws k f w F v l) (hk : Kept G w w') (hd : ∀ i, F i → ¬ G i) : Rws k f w' F v l := by
 obtain ⟨A, cap, h1, h2, h3⟩ := h
 refine ⟨A, cap, h1, h2, fun hp => ?_⟩
 obtain ⟨b, o, e, hb, hl, hc⟩ := h3 hp
 exact ⟨b, o, e, hb, Nat.lt_of_lt_of_le hl hk.size, fun i x hx j u hu => (hk.cell (p := ⟨b, _, Option.none⟩) hl (hd b hb)).trans (hc i x hx j u hu)⟩
theorem Rws.below (h : Rws k f w F v l) (hk : Below w.heap.size w w') : Rws k f w' F v l := h.kept (Kept.ofBelow hk (fun _ => False)) (fun _ _ h => h)
theorem Rws.mono (h : Rws k f w F v l) (hF : ∀ i, F i → G i) : Rws k f w G v l := by
 obtain ⟨A, cap, h1, h2, h3⟩ := h
 refine ⟨A, cap, h1, h2, fun hp => ?_⟩
 obtain ⟨b, o, e, hb, r⟩ := h3 hp
 exact ⟨b, o, e, hF b hb, r⟩
theorem Rws.lt (h : Rws k f w F v l) : Rws k f w (fun i => F i ∧ i < w.heap.size) v l := by
 obtain ⟨A, cap, h1, h2, h3⟩ := h
 refine ⟨A, cap, h1, h2, fun hp => ?_⟩
 obtain ⟨b, o, e, hb, r⟩ := h3 hp
 exact ⟨b, o, e, ⟨hb, r.1⟩, r⟩
theorem rows_at : ∀ (l : List α), (∀ x ∈ l, (f x).length = k) → ∀ (i : Nat) (x : α), l[i]? = some x → ∀ (j : Nat) (u : Value), (f x)[j]? = some u → (l.flatMap f)[i * k + j]? = some u
 | [], _, i, x, hx, _, _, _ => by cases hx
 | y :: l, hk, 0, x, hx, j, u, hu => by
  simp at hx
  subst hx
  rw [List.flatMap_cons, Nat.zero_mul, Nat.zero_add, List.getElem?_append_left (by obtain ⟨h, _⟩ := List.getElem?_eq_some_iff.1 hu; exact h)]
  exact hu
 | y :: l, hk, i + 1, x, hx, j, u, hu => by
  have hy := hk y (by simp)
  rw [List.flatMap_cons, List.getElem?_append_right (by rw [hy, Nat.add_one_mul]; omega), hy]
  have e : (i + 1) * k + j - k = i * k + j := by rw [Nat.add_one_mul]; omega
  rw [e]
  exact rows_at l (fun z hz => hk z (List.mem_cons_of_mem _ hz)) i x (by simpa using hx) j u hu
theorem rows_of : ∀ (l : List α), (∀ x ∈ l, (f x).length = k) → ∀ (m : Nat) (u : Value), (l.flatMap f)[m]? = some u → ∃ i x j, l[i]? = some x ∧ (f x)[j]? = some u ∧ m = i * k + j
 | [], _, m, u, h => by simp at h
 | y :: l, hk, m, u, h => by
  have hy := hk y (by simp)
  rw [List.flatMap_cons] at h
  by_cases hm : m < k
  ·rw [List.getElem?_append_left (by omega)] at h
   exact ⟨0, y, m, rfl, h, by omega⟩
  ·rw [List.getElem?_append_right (by omega), hy] at h
   obtain ⟨i, x, j, h1, h2, h3⟩ := rows_of l (fun z hz => hk z (List.mem_cons_of_mem _ hz)) _ u h
   exact ⟨i + 1, x, j, by simpa using h1, h2, by rw [Nat.add_one_mul]; omega⟩
theorem rows_len : ∀ (l : List α), (∀ x ∈ l, (f x).length = k) → (l.flatMap f).length = l.length * k
 | [], _ => by simp
 | y :: l, hk => by
  rw [List.flatMap_cons, List.length_append, rows_len l (fun z hz => hk z (List.mem_cons_of_mem _ hz)), hk y (by simp), List.length_cons, Nat.add_one_mul]
  omega
theorem Rws.ofOwn {base t n : Nat} (h : w.ownsRow base t k v n (l.flatMap f)) (hl : l.length = n) (hk : ∀ x ∈ l, (f x).length = k) (hF : ∀ b, v.ownBlock = some b → base ≤ b → b < w.heap.size → F b) : Rws k f w F v l := by
 subst hl
 rcases h.2 with ⟨hv, h0⟩ | ⟨g, cap, cur, hv, hb, hg, hc, hm, hs, ht⟩
 ·rw [hv]
  have : l = [] := List.eq_nil_of_length_eq_zero h0
  rw [this]
  exact Rws.none _ _ _
 ·refine ⟨some ⟨g, 0, Option.none⟩, cap, hv, hc, fun _ => ⟨g, 0, rfl, hF g (by rw [hv]; rfl) hb (lt_of_block hg), lt_of_block hg, fun i x hx j u hu => ?_⟩⟩
  have hr := rows_at l hk i x hx j u hu
  rw [cell_of_row w g _ cur t (0, 0) hg, Nat.zero_add]
  rw [← ht, List.getElem?_take] at hr
  split at hr
  ·rw [Array.getElem?_toList] at hr; exact hr
  ·cases hr
theorem Rws.take (h : Rws k f w F v l) {A : Option Addr} {cap : Nat} (hv : v = .slice A l.length cap) (i : Nat) (hi : i ≤ l.length) (c : Nat) (hc : i ≤ c) : Rws k f w F (.slice A i c) (l.take i) := by
 obtain ⟨B, cap', h1, h2, h3⟩ := h
 rw [h1] at hv
 injection hv with e1 e2 e3
 subst e1
 have hl : (l.take i).length = i := by rw [List.length_take]; omega
 refine ⟨B, c, by rw [hl], by rw [hl]; exact hc, fun hp => ?_⟩
 rw [hl] at hp
 obtain ⟨b, o, e, hb, hlt, hcl⟩ := h3 (by omega)
 exact ⟨b, o, e, hb, hlt, fun m x hx => hcl m x (by rw [List.getElem?_take] at hx; split at hx; exact hx; cases hx)⟩
theorem Rws.drop (h : Rws k f w F v l) {b o cap : Nat} (hv : v = .slice (some ⟨b, o, Option.none⟩) l.length cap) (i : Nat) (hi : i ≤ l.length) (c : Nat) (hc : l.length - i ≤ c) : Rws k f w F (.slice (some ⟨b, o + i * k, Option.none⟩) (l.length - i) c) (l.drop i) := by
 obtain ⟨B, cap', h1, h2, h3⟩ := h
 rw [h1] at hv
 injection hv with e1 e2 e3
 subst e1
 have hl : (l.drop i).length = l.length - i := List.length_drop
 refine ⟨_, c, by rw [hl], by rw [hl]; exact hc, fun hp => ?_⟩
 rw [hl] at hp
 obtain ⟨b', o', e, hb, hlt, hcl⟩ := h3 (by omega)
 injection e with e
 injection e with e1 e2
 subst e1 e2
 refine ⟨b, o + i * k, rfl, hb, hlt, fun m x hx j u hu => ?_⟩
 rw [List.getElem?_drop] at hx
 have := hcl (i + m) x hx j u hu
 rw [show o + (i + m) * k + j = o + i * k + m * k + j by rw [Nat.add_mul]; omega] at this
 exact this
end
section
variable {P : Program} {α : Type} {k : Nat} {f : α → List Value}
theorem join_nothing {w : World} (base : Nat) (t ty e : TypeId) (i : TypeInfo) (size c : Nat) (ht : P.underlying t = some (.slice e)) (hi : P.info? e = some i) (v : Value) (n : Nat) (xs : List Value) (hown : w.ownsRow base e size v n xs) :
  (Builtin.append_ #[t, t] ty #[v, .slice none 0 c]).run P w = .ok v w := by
 rcases hown.2 with ⟨rfl, rfl⟩ | ⟨g, cap, cur, rfl, _, _, hnc, _⟩
 ·simp [Builtin.append_, run_underlying ht, sizeOf, typeInfo, hi, Builtin.lenOf, Builtin.firstCells]
 ·simp [Builtin.append_, run_underlying ht, sizeOf, typeInfo, hi, Builtin.lenOf, Builtin.firstCells, hnc, storeCells]
theorem join_rows {w : World} (base : Nat) (t ty e : TypeId) (i : TypeInfo) (z : Value) (bytes : Nat) (ht : P.underlying t = some (.slice e)) (hi : P.info? e = some i) (hz : i.zero = some z) (hsize : i.size = k) (hby : i.bytes = bytes) (hzs : z.cells.size = k) (hsz : 0 < k)
  {v xv : Value} {n : Nat} {xs : List Value} {F : Nat → Prop} {l : List α} (hown : w.ownsRow base e k v n xs) (hx : Rws k f w F xv l) (hk : ∀ x ∈ l, (f x).length = k) (h1 : ∀ x ∈ l, ∀ u ∈ f x, u.oneCell' = true)
  (h63 : n + l.length ≤ maxLen) (hbytes : (n + l.length) * bytes ≤ 140737488355328) (hbase : base ≤ w.heap.size) :
  ∃ v' w', (Builtin.append_ #[t, t] ty #[v, xv]).run P w = .ok v' w' ∧ w'.ownsRow base e k v' (n + l.length) (xs ++ l.flatMap f) ∧ w.grownBy w' v.ownBlock := by
 obtain ⟨A, c, rfl, hc, hat⟩ := hx
 have hone : ∀ u ∈ l.flatMap f, u.oneCell' = true := by
  intro u hu
  obtain ⟨x, hx, hu⟩ := List.mem_flatMap.1 hu
  exact h1 x hx u hu
 have hgo : ∀ ad : Addr, A = some ad → (∀ j u, (l.flatMap f)[j]? = some u → w.cell? (ad.add j) = some u) → ∃ v' w', (Builtin.append_ #[t, t] ty #[v, .slice A l.length c]).run P w = .ok v' w' ∧ w'.ownsRow base e k v' (n + l.length) (xs ++ l.flatMap f) ∧ w.grownBy w' v.ownBlock := by
  rintro ad rfl hnews
  obtain ⟨v', w', r1, r2, r3, -⟩ := run_append_own w base t ty e i z k bytes ht hi hz hsize hby hzs hsz v n xs hown ad l.length c (l.flatMap f) (rows_len l hk) hnews hone h63 hbytes hbase
  exact ⟨v', w', r1, r2, r3⟩
 by_cases h0 : 0 < l.length
 ·obtain ⟨b, o, rfl, -, hbl, hcell⟩ := hat h0
  refine hgo _ rfl (fun j u hu => ?_)
  obtain ⟨m, x, r, e1, e2, rfl⟩ := rows_of l hk j u hu
  rw [Go.WideShapes.add_plain, ← Nat.add_assoc]
  exact hcell m x e1 r u e2
 ·have hl : l = [] := List.eq_nil_of_length_eq_zero (by omega)
  subst hl
  cases A with
  | none => exact ⟨v, w, join_nothing base t ty e i k c ht hi v n xs hown, by simpa using hown, rfl, rfl, rfl, Nat.le_refl _, fun _ _ _ => rfl⟩
  | some ad => exact hgo ad rfl (fun j u hu => by simp at hu)
end
end Go.Proofs.YtpmolinmopgbdaaGreat
namespace Go.Proofs.YtpmolinmopgbdaaGreat
open Go.ChangeShapes Go.WideShapes Go.ChangeAt Go.RowKit
theorem own : ownKnob Tryz.prog.godebug = none := by kernel_rfl
theorem laidOut : laidOutB Tryz.prog = true := by kernel_rfl
section
variable {H : Type} {enc : TypeId × Value → H}
theorem args_stay {W W' : World} (hb : Below W.heap.size W W') : ∀ (ts : List TypeId) (vs : List Value) (ds : List (DataW H)) (ps : List MemPlace),
  (∀ t ∈ ts, Tryz.prog.readableRec t = true ∧ t < Tryz.prog.types.size) → (∀ p ∈ ps, p.block < W.heap.size) →
  DataW.TrodAll enc Tryz.prog W 0 (fun _ => true) true ts vs ds ps → DataW.TrodAll enc Tryz.prog W' 0 (fun b => decide (b < W.heap.size)) true ts vs ds ps
 | [], vs, ds, ps, _, _, h => by
  obtain ⟨rfl, rfl, rfl⟩ := trodAll_nil h
  exact trodAll_mk0
 | t :: ts, vs, ds, ps, ht, hp, h => by
  obtain ⟨v, vs', d, ds', p, q, rfl, rfl, rfl, h1, h2⟩ := trodAll_cons h
  obtain ⟨r1, r2⟩ := ht t (by simp)
  exact trodAll_cons_mk (Below.trod laidOut r1 r2 h1 hb (fun x hx => hp x (by simp [hx]))) (args_stay hb ts vs' ds' q (fun u hu => ht u (by simp [hu])) (fun x hx => hp x (by simp [hx])) h2)
theorem law_done {f : Func} {s : ChangeSpec} {W W' : World} {args : Array Value} {ds gs : List (DataW H)} {before : List MemPlace} (hres : f.resultTypes = #[4]) (hv : s.vars = [])
  (hW : DataW.Whole enc Tryz.prog f.params.toList s.vars false W args.toList ds gs before) (hfn : s.fn H (ds ++ gs) = { results := [.lit (.bool true)], args := ds })
  (hr : ∀ t ∈ f.params.toList, Tryz.prog.readableRec t = true ∧ t < Tryz.prog.types.size) (hb : Below W.heap.size W W') :
  s.post enc Tryz.prog f false true false false W args (.bool true) W' := by
 have hlt : ∀ p ∈ before, p.block < W.heap.size := fun p hp => hW.lt p hp
 have hW0 := hW
 obtain ⟨p, q, hA, hV, hpq, _, _⟩ := hW
 rw [hv] at hV
 obtain ⟨rfl, rfl⟩ := trodVars_none hV
 rw [List.append_nil] at hpq
 subst hpq
 refine ⟨ds, [], before, [], before, [], hW0, ?_, ?_, ?_, hb.frame _, fun h => by cases h⟩
 ·rw [hfn, hres]
  exact trodAll_mk1 (shut_bool Tryz.underlying4 true)
 ·rw [hfn]
  exact args_stay hb _ _ _ _ hr hlt hA
 ·rw [hfn, hv]
  rfl
end
end Go.Proofs.YtpmolinmopgbdaaGreat
namespace Go.Proofs.YtpmolinmopgbdaaGreat.Crc
def poly : BitVec 32 := 0x82F63B78#32
def z (c : BitVec 32) : BitVec 32 := (c >>> 1) ^^^ (if c.getLsbD 0 then poly else 0#32)
def one (m : Bool) : BitVec 32 := if m then 1#32 else 0#32
def step (r : BitVec 32) (m : Bool) : BitVec 32 := z (r ^^^ one m)
def run (r : BitVec 32) (ms : List Bool) : BitVec 32 := ms.foldl step r
def bitsOf (b : UInt8) : List Bool := (List.range 8).map fun k => b.toNat.testBit k
def msg (s : List UInt8) : List Bool := s.flatMap bitsOf
def sum (s : List UInt8) : BitVec 32 := ~~~ run (BitVec.allOnes 32) (msg s)
def zs : Nat → BitVec 32 → BitVec 32
 | 0, c => c
 | n + 1, c => z (zs n c)
end Go.Proofs.YtpmolinmopgbdaaGreat.Crc
namespace Go.Proofs.YtpmolinmopgbdaaGreat
open Go.RowKit
def bools (l : List Bool) : List Value := l.map Value.bool
end Go.Proofs.YtpmolinmopgbdaaGreat
namespace Go.Proofs.YtpmolinmopgbdaaGreat.Crc
def mbit (M : List Bool) (j : Nat) : Bool := M.getD j false
def reg (M : List Bool) (i : Nat) : BitVec 32 := run (BitVec.allOnes 32) (M.take i)
def cell (M : List Bool) (i j : Nat) : Bool := (reg M i).getLsbD (j - i) ^^ mbit M j
def Cells (M : List Bool) (i : Nat) (B : List Bool) : Prop := B.length = M.length + 32 ∧ ∀ j, i ≤ j → j < M.length + 32 → B.getD j false = cell M i j
end Go.Proofs.YtpmolinmopgbdaaGreat.Crc
namespace Go.Proofs.YtpmolinmopgbdaaGreat
open Go.RowKit
def Cel (w : World) (g n cap : Nat) (B : List Bool) (wr : World) : Prop := B.length = n ∧ w.heap.size ≤ g ∧ wr.ownsRow w.heap.size 4 1 (.slice (some ⟨g, 0, none⟩) n cap) n (bools B) ∧ Below w.heap.size w wr
theorem Cel.at {w wr : World} {g n cap : Nat} {B : List Bool} (h : Cel w g n cap B wr) {j : Nat} (hj : j < n) : wr.cell? ⟨g, j, none⟩ = some (.bool (B.getD j false)) := by
 rw [h.2.2.1.cellAt j (by omega)]
 have : j < B.length := by rw [h.1]; exact hj
 simp [bools, List.getD, this]
theorem Cel.free {w wr : World} {g n cap : Nat} {B : List Bool} (h : Cel w g n cap B wr) (j : Nat) : wr.frozen? ⟨g, j, none⟩ = false := h.2.2.1.frozenAt j
theorem Cel.set {w wr : World} {g n cap : Nat} {B : List Bool} (h : Cel w g n cap B wr) (j : Nat) (x : Bool) : Cel w g n cap (B.set j x) (wr.setCell ⟨g, j, none⟩ (.bool x)) := by
 refine ⟨by rw [List.length_set]; exact h.1, h.2.1, ?_, h.2.2.2.setCell (p := ⟨g, j, none⟩) h.2.1 _⟩
 have := (h.2.2.1.stored j (.bool x)).1
 simpa [bools, List.map_set] using this
theorem Cel.new {w wr : World} {g n cap : Nat} {B : List Bool} (h : Cel w g n cap B wr) (o : Obj) : Cel w g n cap B (wr.alloc o) := ⟨h.1, h.2.1, h.2.2.1.alloc o, h.2.2.2.alloc h.2.2.2.size o⟩
theorem Cel.draws {w wr : World} {g n cap : Nat} {B : List Bool} (h : Cel w g n cap B wr) : Cel w g n cap B wr.drew := ⟨h.1, h.2.1, h.2.2.1.drew, h.2.2.2.drew⟩
end Go.Proofs.YtpmolinmopgbdaaGreat
namespace Go.Proofs.YtpmolinmopgbdaaGreat
open Go.RowKit
def fourOf (n : Nat) : List UInt8 := [UInt8.ofNat (n % 256), UInt8.ofNat (n / 256 % 256), UInt8.ofNat (n / 65536 % 256), UInt8.ofNat (n / 16777216)]
theorem idx (s : ByteArray) (k : Nat) (h : k < s.size) : ∃ c : UInt8, s.data.toList[k]? = some c ∧ ∀ V : World, (Instr.index 9 (.string s) (.int .i64 (k : Int))).run Tryz.prog V = .ok (.int .u8 (c.toNat : Int)) V := by
 refine ⟨s[k]'h, ?_, fun V => by go_simp⟩
 rw [List.getElem?_eq_getElem (by rw [← Lib.size_eq]; exact h), Array.getElem_toList]
 rfl
end Go.Proofs.YtpmolinmopgbdaaGreat
namespace Go.Proofs.YtpmolinmopgbdaaGreat.Leb
def dec : Nat → Nat → Nat → List UInt8 → Nat × Nat × Int
 | 0, _, _, _ => (0, 0, 6)
 | _ + 1, _, _, [] => (0, 0, 5)
 | f + 1, i, acc, b :: rest =>
  if b = 0 ∧ 0 < i then (0, 0, 6)
  else if b.toNat < 128 then (acc + b.toNat % 128 * 128 ^ i, i + 1, 0)
  else dec f (i + 1) (acc + b.toNat % 128 * 128 ^ i) rest
def first (l : List UInt8) : Nat × Nat × Int := dec 9 0 0 l
def second (l : List UInt8) : List UInt8 × Nat × Int :=
 if (first l).2.2 = 0 then
  if l.length - (first l).2.1 < (first l).1 then ([], 0, 5) else ((l.drop (first l).2.1).take (first l).1, (first l).2.1 + (first l).1, 0)
 else ([], 0, (first l).2.2)
def encF : Nat → Nat → List UInt8
 | 0, n => [UInt8.ofNat n]
 | f + 1, n => if n ≤ 127 then [UInt8.ofNat n] else UInt8.ofNat (n % 128 + 128) :: encF f (n / 128)
def enc (n : Nat) : List UInt8 := encF 8 n
end Go.Proofs.YtpmolinmopgbdaaGreat.Leb
namespace Go.Proofs.YtpmolinmopgbdaaGreat.Frm
def sumOf (t : List UInt8) : List UInt8 := fourOf (Crc.sum t).toNat
def one (t : List UInt8) : List UInt8 := Leb.enc t.length ++ t ++ sumOf t
def all (l : List (List UInt8)) : List UInt8 := l.flatMap one
def first (s : List UInt8) : List UInt8 × Nat × Int :=
 if (Leb.second s).2.2 = 0 then
  if s.length - (Leb.second s).2.1 < 4 then ([], 0, 5)
  else if (s.drop (Leb.second s).2.1).take 4 = sumOf (Leb.second s).1 then ((Leb.second s).1, (Leb.second s).2.1 + 4, 0) else ([], 0, 7)
 else ([], 0, (Leb.second s).2.2)
end Go.Proofs.YtpmolinmopgbdaaGreat.Frm
namespace Go.Proofs.YtpmolinmopgbdaaGreat
open Go.RowKit
theorem bytes_ext {a b : ByteArray} (h : a.data.toList = b.data.toList) : a = b := ByteArray.ext (Array.toList_inj.1 h)
end Go.Proofs.YtpmolinmopgbdaaGreat
namespace Go.Proofs.YtpmolinmopgbdaaGreat
open Go.RowKit
end Go.Proofs.YtpmolinmopgbdaaGreat
namespace Go.Proofs.YtpmolinmopgbdaaGreat
open Go.RowKit
def mk (l : List UInt8) : ByteArray := ⟨l.toArray⟩
theorem mk_data (l : List UInt8) : (mk l).data.toList = l := rfl
theorem mk_len (l : List UInt8) : (mk l).size = l.length := by rw [Lib.size_eq]; rfl
theorem mk_of (s : ByteArray) : mk s.data.toList = s := bytes_ext rfl
def texts (l : List (List UInt8)) : List Value := l.map fun t => Value.string (mk t)
theorem texts_len (l : List (List UInt8)) : (texts l).length = l.length := List.length_map _
theorem texts_at {l : List (List UInt8)} {i : Nat} {t : List UInt8} (h : l[i]? = some t) : (texts l)[i]? = some (.string (mk t)) := by
 unfold texts
 rw [List.getElem?_map, h]; rfl
def NewIn (w w' : World) (k : Nat) : Prop := w.heap.size ≤ k ∧ k < w'.heap.size
end Go.Proofs.YtpmolinmopgbdaaGreat
namespace Go.Proofs.YtpmolinmopgbdaaGreat
open Go.RowKit
end Go.Proofs.YtpmolinmopgbdaaGreat
namespace Go.Proofs.YtpmolinmopgbdaaGreat
open Go.RowKit
def rgV (r : Sz.Rg) : List Value := [.int .i64 r.1, .int .i64 r.2]
abbrev Rgs (w : World) (F : Nat → Prop) (v : Value) (l : List Sz.Rg) : Prop := Rws 2 rgV w F v l
def Bd (r : Sz.Rg) : Prop := -9223372036854775808 ≤ r.1 ∧ r.1 ≤ 9223372036854775807 ∧ -9223372036854775808 ≤ r.2 ∧ r.2 ≤ 9223372036854775807
theorem rg_len (r : Sz.Rg) : (rgV r).length = 2 := rfl
theorem rg_one (r : Sz.Rg) : ∀ u ∈ rgV r, u.oneCell' = true := by
 intro u hu
 unfold rgV at hu
 simp only [List.mem_cons, List.not_mem_nil, or_false] at hu
 rcases hu with rfl | rfl <;> rfl
structure SizesOk : Prop where
 norm : ∀ {w : World} {F : Nat → Prop} {v : Value} {l : List Sz.Rg}, Rgs w F v l → l.length ≤ 100000 → (∀ r ∈ l, Bd r) → Calls Tryz.prog 145 #[v] w fun e w' => ∃ v', e = .returned v' ∧ Rgs w' (NewIn w w') v' (Sz.norm l) ∧ Below w.heap.size w w'
 join : ∀ {w : World} {F G : Nat → Prop} {u v : Value} {a b : List Sz.Rg}, Rgs w F u a → Rgs w G v b → a.length ≤ 100000 → b.length ≤ 100000 → (∀ r ∈ a, Bd r) → (∀ r ∈ b, Bd r) → Calls Tryz.prog 131 #[u, v] w fun e w' => ∃ v', e = .returned v' ∧ Rgs w' (NewIn w w') v' (Sz.two 0 a b) ∧ Below w.heap.size w w'
 meet : ∀ {w : World} {F G : Nat → Prop} {u v : Value} {a b : List Sz.Rg}, Rgs w F u a → Rgs w G v b → a.length ≤ 100000 → b.length ≤ 100000 → (∀ r ∈ a, Bd r) → (∀ r ∈ b, Bd r) → Calls Tryz.prog 94 #[u, v] w fun e w' => ∃ v', e = .returned v' ∧ Rgs w' (NewIn w w') v' (Sz.two 1 a b) ∧ Below w.heap.size w w'
 minus : ∀ {w : World} {F G : Nat → Prop} {u v : Value} {a b : List Sz.Rg}, Rgs w F u a → Rgs w G v b → a.length ≤ 100000 → b.length ≤ 100000 → (∀ r ∈ a, Bd r) → (∀ r ∈ b, Bd r) → Calls Tryz.prog 105 #[u, v] w fun e w' => ∃ v', e = .returned v' ∧ Rgs w' (NewIn w w') v' (Sz.two 2 a b) ∧ Below w.heap.size w w'
theorem Rgs.at {w : World} {F : Nat → Prop} {b o : Nat} {n cap : Nat} {l : List Sz.Rg} (h : Rgs w F (.slice (some ⟨b, o, none⟩) n cap) l) {i : Nat} {x : Sz.Rg} (hx : l[i]? = some x) :
  w.cell? ⟨b, o + i * 2, none⟩ = some (.int .i64 x.1) ∧ w.cell? ⟨b, o + i * 2 + 1, none⟩ = some (.int .i64 x.2) := by
 obtain ⟨A, c, e, -, hat⟩ := h
 injection e with e1 e2 e3
 obtain ⟨b', o', e, -, -, hc⟩ := hat (by obtain ⟨hl, _⟩ := List.getElem?_eq_some_iff.1 hx; omega)
 rw [e] at e1
 injection e1 with e1
 injection e1 with e1 e2
 subst e1 e2
 exact ⟨hc i x hx 0 _ rfl, hc i x hx 1 _ rfl⟩
theorem Rgs.slice {w : World} {F : Nat → Prop} {v : Value} {l : List Sz.Rg} (h : Rgs w F v l) : ∃ A cap, v = .slice A l.length cap ∧ l.length ≤ cap := by
 obtain ⟨A, c, e, hc, hat⟩ := h
 exact ⟨A, c, e, hc⟩
theorem Rgs.shape {w : World} {F : Nat → Prop} {v : Value} {l : List Sz.Rg} (h : Rgs w F v l) (h0 : 0 < l.length) : ∃ b o cap, v = .slice (some ⟨b, o, Option.none⟩) l.length cap ∧ l.length ≤ cap ∧ F b ∧ b < w.heap.size := by
 obtain ⟨A, c, e, hc, hat⟩ := h
 obtain ⟨b, o, rfl, hb, hl, -⟩ := hat h0
 exact ⟨b, o, c, e, hc, hb, hl⟩
theorem norm_bd (l : List Sz.Rg) : (∀ r ∈ Sz.norm l, Bd r) ∧ (Sz.norm l).length ≤ 202 := by
 refine ⟨fun r hr => ?_, ?_⟩
 ·have := Sz.formR_bd (Sz.of l) 0 none (by rw [Sz.of_len]; omega) (fun lo h => by cases h) r hr
  unfold Bd; omega
 ·have := Sz.formR_len (Sz.of l) 0 none
  rw [Sz.of_len] at this
  exact this
theorem two_bd (k : Nat) (a b : List Sz.Rg) : (∀ r ∈ Sz.two k a b, Bd r) ∧ (Sz.two k a b).length ≤ 202 := by
 refine ⟨fun r hr => ?_, ?_⟩
 ·have := Sz.formR_bd _ 0 none (by simp) (fun lo h => by cases h) r hr
  unfold Bd; omega
 ·have := Sz.formR_len ((List.range 201).map fun (i : Nat) => Sz.pick k (Sz.holds a (i : Int)) (Sz.holds b (i : Int))) 0 none
  rw [List.length_map, List.length_range] at this
  exact this
end Go.Proofs.YtpmolinmopgbdaaGreat
namespace Go.Proofs.YtpmolinmopgbdaaGreat
open Go.RowKit
section
variable {α : Type} {t k : Nat} {f : α → List Value} {w wr w1 w2 : World} {out : List α} {v v' : Value}
theorem row_below {base t size n : Nat} {v : Value} {xs : List Value} (h : w.ownsRow base t size v n xs) (k : Below w.heap.size w w1) : w1.ownsRow base t size v n xs :=
 h.kept (Kept.ofBelow k (fun i => i = w.heap.size)).grown (Or.inr (fun e => by have := (h.lt _ e).2; omega))
def RowsOwn (t k : Nat) (f : α → List Value) (w : World) (out : List α) (v : Value) (wr : World) : Prop := wr.ownsRow w.heap.size t k v out.length (out.flatMap f) ∧ Below w.heap.size w wr
theorem RowsOwn.start (t k : Nat) (f : α → List Value) (w : World) : RowsOwn t k f w [] (.slice none 0 0) w := ⟨World.ownsRow_nil _ _ _ _, Below.refl _ _⟩
theorem RowsOwn.first (h : Below w.heap.size w wr) : RowsOwn t k f w [] (.slice none 0 0) wr := ⟨World.ownsRow_nil _ _ _ _, h⟩
theorem RowsOwn.below (h : RowsOwn t k f w out v w1) (hb : Below w1.heap.size w1 w2) : RowsOwn t k f w out v w2 := ⟨row_below h.1 hb, h.2.trans (hb.mono h.2.size)⟩
theorem row_lower {a b t size n : Nat} {v : Value} {xs : List Value} (h : w.ownsRow b t size v n xs) (hab : a ≤ b) : w.ownsRow a t size v n xs := by
 refine ⟨h.1, ?_⟩
 rcases h.2 with h2 | ⟨g, cap, cur, hv, hb, r⟩
 ·exact Or.inl h2
 ·exact Or.inr ⟨g, cap, cur, hv, Nat.le_trans hab hb, r⟩
theorem RowsOwn.since (h : RowsOwn t k f w1 out v w2) (hb : Below w.heap.size w w1) : RowsOwn t k f w out v w2 := ⟨row_lower h.1 hb.size, hb.trans (h.2.mono hb.size)⟩
theorem RowsOwn.more {x : α} {o : Obj} (h : RowsOwn t k f w out v wr) (hown : w2.ownsRow w.heap.size t k v' (out.length + 1) (out.flatMap f ++ f x)) (hg : (wr.alloc o).grownBy w2 v.ownBlock) : RowsOwn t k f w (out ++ [x]) v' w2 := by
 obtain ⟨h1, h2⟩ := h
 refine ⟨?_, (h2.alloc h2.size o).grown hg (by have := h2.size; simp; omega) (fun k hk => (h1.lt k hk).1)⟩
 rw [List.length_append, List.flatMap_append]
 simpa using hown
theorem RowsOwn.rows (h : RowsOwn t k f w out v wr) (hk : ∀ x ∈ out, (f x).length = k) : Rws k f wr (NewIn w wr) v out := Rws.ofOwn h.1 rfl hk (fun _ _ h1 h2 => ⟨h1, h2⟩)
theorem Rws.block {F : Nat → Prop} {v : Value} {l : List α} (h : Rws k f w F v l) (h0 : 0 < l.length) : ∃ b o cap, v = .slice (some ⟨b, o, Option.none⟩) l.length cap ∧ l.length ≤ cap ∧ F b ∧ b < w.heap.size := by
 obtain ⟨A, c, e, hc, hat⟩ := h
 obtain ⟨b, o, rfl, hb, hl, -⟩ := hat h0
 exact ⟨b, o, c, e, hc, hb, hl⟩
theorem Rws.parts {F : Nat → Prop} {v : Value} {l : List α} (h : Rws k f w F v l) : ∃ A cap, v = .slice A l.length cap ∧ l.length ≤ cap := by
 obtain ⟨A, c, e, hc, hat⟩ := h
 exact ⟨A, c, e, hc⟩
end
section
variable {α : Type} {t k : Nat} {f : α → List Value} {w wr w2 : World} {l m : List α} {v v' : Value} {o : Obj}
theorem RowsOwn.front (hg : (wr.alloc o).grownBy w2 (Value.slice (some ⟨wr.heap.size, 0, none⟩) 0 0).ownBlock) (hown : w2.ownsRow wr.heap.size t k v (0 + l.length) ([] ++ l.flatMap f)) : RowsOwn t k f wr l v w2 := by
 refine ⟨by simpa using hown, ((Below.refl wr.heap.size wr).alloc (Nat.le_refl _) o).grown hg (by simp) (fun k hk => ?_)⟩
 have : wr.heap.size = k := by simpa [Value.ownBlock] using hk
 omega
theorem RowsOwn.rest (h : RowsOwn t k f w l v wr) (hg : wr.grownBy w2 v.ownBlock) (hown : w2.ownsRow w.heap.size t k v' (l.length + m.length) (l.flatMap f ++ m.flatMap f)) : RowsOwn t k f w (l ++ m) v' w2 :=
 ⟨by rw [List.length_append, List.flatMap_append]; exact hown, h.2.grown hg h.2.size (fun k hk => (h.1.lt k hk).1)⟩
end
end Go.Proofs.YtpmolinmopgbdaaGreat
namespace Go.Proofs.YtpmolinmopgbdaaGreat
open Go.RowKit
theorem Cells.below {w w' : World} {F : Nat → Prop} {v : Value} {us : List Value} (h : Cells w F v us) (k : Below w.heap.size w w') : Cells w' F v us := h.kept (Kept.ofBelow k (fun _ => False)) (fun _ _ h => h)
theorem below_drews' (w : World) (n : Nat) : Below w.heap.size w (w.drewN n) := ⟨rfl, rfl, rfl, Nat.le_refl _, fun _ _ => rfl⟩
theorem strInfo : (Tryz.prog.info? 9).map (fun i => (i.zero, i.size, i.bytes)) = some (some (.string ⟨#[]⟩), 1, 16) := by kernel_rfl
theorem own_below {w w' : World} {base t size n : Nat} {v : Value} {xs : List Value} (h : w.ownsRow base t size v n xs) (k : Below w.heap.size w w') : w'.ownsRow base t size v n xs :=
 h.kept (Kept.ofBelow k (fun i => i = w.heap.size)).grown (Or.inr (fun e => by have := (h.lt _ e).2; omega))
def TextsOwn (w : World) (out : List (List UInt8)) (v : Value) (wr : World) : Prop := wr.ownsRow w.heap.size 9 1 v out.length (texts out) ∧ Below w.heap.size w wr
theorem texts_start (w : World) : TextsOwn w [] (.slice none 0 0) w := ⟨World.ownsRow_nil _ _ _ _, Below.refl _ _⟩
theorem TextsOwn.below {w w1 w2 : World} {out : List (List UInt8)} {v : Value} (h : TextsOwn w out v w1) (k : Below w1.heap.size w1 w2) : TextsOwn w out v w2 := ⟨own_below h.1 k, h.2.trans (k.mono h.2.size)⟩
theorem texts_more {w wr w2 : World} {out : List (List UInt8)} {v v' : Value} {o : Obj} {x : List UInt8} (h : TextsOwn w out v wr) (hown : w2.ownsRow w.heap.size 9 1 v' (out.length + 1) (texts out ++ [.string (mk x)])) (hg : (wr.alloc o).grownBy w2 v.ownBlock) :
  TextsOwn w (out ++ [x]) v' w2 := by
 obtain ⟨h1, h2⟩ := h
 refine ⟨?_, (h2.alloc h2.size o).grown hg (by have := h2.size; simp; omega) (fun k hk => (h1.lt k hk).1)⟩
 rw [List.length_append]
 simpa [texts] using hown
theorem TextsOwn.cells {w w' : World} {out : List (List UInt8)} {v : Value} (h : TextsOwn w out v w') : Cells w' (NewIn w w') v (texts out) := Cells.ofOwn h.1 (fun _ _ h1 h2 => ⟨h1, h2⟩)
end Go.Proofs.YtpmolinmopgbdaaGreat
namespace Go.Proofs.YtpmolinmopgbdaaGreat
open Go.RowKit
structure PathOk : Prop where
 parent : ∀ (a : List UInt8) (w : World), a.length ≤ 100000 → Calls Tryz.prog 104 #[.string (mk a)] w fun e w' => e = .returned (.string (mk (Pth.parent a))) ∧ Below w.heap.size w w'
theorem ref_covers1 (a b : List UInt8) (w : World) (ha : a.length ≤ 100000) : Calls Tryz.prog 121 #[.string (mk a), .string (mk b)] w fun e w' => e = .returned (.bool (decide (Pth.Covers a b))) ∧ w' = w := by
 have la : (mk a).size = a.length := mk_len a
 have lb : (mk b).size = b.length := mk_len b
 have ia : (mk a).toList.isEmpty = decide (a = []) := by rw [Lib.toList_data, mk_data]; cases a <;> rfl
 have ea : ((mk a).toList == []) = decide (a = []) := by rw [Lib.toList_data, mk_data]; cases a <;> rfl
 have eb : ((mk a).toList == (mk b).toList) = decide (a = b) := by
  rw [Lib.toList_data, Lib.toList_data, mk_data, mk_data]
  by_cases h : a = b
  ·rw [h, decide_eq_true rfl]; exact beq_self_eq_true _
  ·rw [decide_eq_false h, beq_eq_false_iff_ne]; exact h
 by_cases h1 : a = []
 ·have hc : Hid (decide (Pth.Covers a b) = true) := Lib.hid (decide_eq_true (Or.inl h1))
  rw [decide_eq_true h1] at ia ea
  clear h1 eb
  generalize mk a = x at *
  generalize mk b = y at *
  go_enter Tryz.func121, Tryz.ntmps121
  go_wp2_with fail
  go_ret
  exact ⟨by rw [hc.out]; rfl, rfl⟩
 ·rw [decide_eq_false h1] at ia ea
  by_cases h2 : a = b
  ·have hc : Hid (decide (Pth.Covers a b) = true) := Lib.hid (decide_eq_true (Or.inr (Or.inl h2)))
   rw [decide_eq_true h2] at eb
   clear h1 h2
   generalize mk a = x at *
   generalize mk b = y at *
   go_enter Tryz.func121, Tryz.ntmps121
   go_wp2_with fail
   go_ret
   exact ⟨by rw [hc.out]; rfl, rfl⟩
  ·rw [decide_eq_false h2] at eb
   have hc : ∀ P : Prop, (Pth.Covers a b ↔ P) ↔ ((a.length < b.length ∧ b.take a.length = a ∧ b[a.length]? = some 47) ↔ P) := fun P => by
    unfold Pth.Covers
    constructor
    ·intro h; rw [← h]; exact ⟨fun k => Or.inr (Or.inr k), fun k => (k.resolve_left h1).resolve_left h2⟩
    ·intro h; rw [← h]; exact ⟨fun k => (k.resolve_left h1).resolve_left h2, fun k => Or.inr (Or.inr k)⟩
   by_cases h3 : a.length < b.length
   ·have g3 : decide ((mk a).size < (mk b).size) = true := by rw [la, lb]; exact decide_eq_true h3
    have g3i : ((mk a).size : Int) < ((mk b).size : Int) := by rw [la, lb]; omega
    have g3j : ((mk a).size : Int) ≤ ((mk b).size : Int) := by omega
    have e4 : (((mk b).extract 0 (mk a).size).toList == (mk a).toList) = decide (b.take a.length = a) := by
     rw [Lib.toList_data, Lib.toList_data, Lib.extract_data, mk_data, mk_data, la, List.drop_zero, Nat.sub_zero]
     by_cases h : b.take a.length = a
     ·rw [h, decide_eq_true rfl]; exact beq_self_eq_true _
     ·rw [decide_eq_false h, beq_eq_false_iff_ne]; exact h
    by_cases h4 : b.take a.length = a
    ·rw [decide_eq_true h4] at e4
     obtain ⟨c, hcc, ic⟩ := idx (mk b) (mk a).size (by rw [la, lb]; exact h3)
     rw [mk_data, la] at hcc
     have hx : Hid (decide (Pth.Covers a b) = decide (c.toNat = 47)) := Lib.hid (by
      rw [decide_eq_decide]
      refine (hc _).2 ⟨fun k => ?_, fun k => ⟨h3, h4, ?_⟩⟩
      ·have := k.2.2
       rw [hcc] at this
       injection this with this
       rw [this]; rfl
      ·rw [hcc]
       congr 1
       apply UInt8.toNat_inj.1
       exact k)
     have hc7 : (((c.toNat : Int)) == 47) = decide (c.toNat = 47) := by
      by_cases h : c.toNat = 47
      ·rw [h]; rfl
      ·rw [decide_eq_false h, beq_eq_false_iff_ne]; omega
     clear h1 h2 h3 h4 hc hcc la lb
     generalize mk a = x at *
     generalize mk b = y at *
     cases hd : decide (c.toNat = 47)
     all_goals
      rw [hd] at hx hc7
      generalize c.toNat = cn at *
      go_enter Tryz.func121, Tryz.ntmps121
      go_wp2_with fail
      go_ret
      exact ⟨by rw [hx.out]; rfl, rfl⟩
    ·rw [decide_eq_false h4] at e4
     have hx : Hid (decide (Pth.Covers a b) = false) := Lib.hid (decide_eq_false (fun k => h4 (((hc (Pth.Covers a b)).1 Iff.rfl).2 k).2.1))
     clear h1 h2 h3 h4 hc la lb
     generalize mk a = x at *
     generalize mk b = y at *
     go_enter Tryz.func121, Tryz.ntmps121
     go_wp2_with fail
     go_ret
     exact ⟨by rw [hx.out]; rfl, rfl⟩
   ·have g3 : decide ((mk a).size < (mk b).size) = false := by rw [la, lb]; exact decide_eq_false h3
    have hx : Hid (decide (Pth.Covers a b) = false) := Lib.hid (decide_eq_false (fun k => h3 (((hc (Pth.Covers a b)).1 Iff.rfl).2 k).1))
    clear h1 h2 h3 hc la lb
    generalize mk a = x at *
    generalize mk b = y at *
    go_enter Tryz.func121, Tryz.ntmps121
    go_wp2_with fail
    go_ret
    exact ⟨by rw [hx.out]; rfl, rfl⟩
theorem ref_covers0 (a b : List UInt8) (w : World) (ha : a.length ≤ 100000) (_hb : b.length ≤ 100000) : Calls Tryz.prog 121 #[.string (mk a), .string (mk b)] w fun e w' => e = .returned (.bool (decide (Pth.Covers a b))) ∧ w' = w := ref_covers1 a b w ha
theorem ref_covers (a b : List UInt8) (w : World) (ha : a.length ≤ 100000) (hb : b.length ≤ 100000) : Calls Tryz.prog 121 #[.string (mk a), .string (mk b)] w fun e w' => e = .returned (.bool (decide (Pth.Covers a b))) ∧ Below w.heap.size w w' :=
 (ref_covers0 a b w ha hb).mono fun _ _ h => ⟨h.1, by rw [h.2]; exact Below.refl _ _⟩
end Go.Proofs.YtpmolinmopgbdaaGreat
namespace Go.Proofs.YtpmolinmopgbdaaGreat
open Go.RowKit
def clV (c : Flt.Cl) : List Value := [.string (mk c.pre), .int .i64 c.lo, .int .i64 c.hi]
abbrev Cls (w : World) (F : Nat → Prop) (v : Value) (l : List Flt.Cl) : Prop := Rws 3 clV w F v l
def Flt.Bd (c : Flt.Cl) : Prop := c.pre.length ≤ 100000 ∧ Go.Proofs.YtpmolinmopgbdaaGreat.Bd (Flt.rg c)
theorem cl_len (c : Flt.Cl) : (clV c).length = 3 := rfl
theorem cl_one (c : Flt.Cl) : ∀ u ∈ clV c, u.oneCell' = true := by
 intro u hu
 unfold clV at hu
 simp only [List.mem_cons, List.not_mem_nil, or_false] at hu
 rcases hu with rfl | rfl | rfl <;> rfl
def Flt.first : List Flt.Cl → Int
 | [] => 0
 | c :: l => if c.pre ≠ [] ∧ ¬ Pth.Right c.pre then 13 else if Flt.Right c then Flt.first l else 2
def Flt.check (f : List Flt.Cl) : Int := if 8 < f.length then 4 else Flt.first f
def Flt.whole : List Flt.Cl := [⟨[], 0, 200⟩]
theorem Flt.ins_len (out : List Flt.Tx) (p : Flt.Tx) : (Flt.ins out p).length ≤ out.length + 1 := by
 unfold Flt.ins
 split
 ·omega
 ·have e := congrArg List.length (List.takeWhile_append_dropWhile (p := fun q => decide (q < p)) (l := out))
  rw [List.length_append] at e
  rw [List.length_append, List.length_cons]
  omega
theorem Flt.prefixes_len (f : List Flt.Cl) : (Flt.prefixes f).length ≤ f.length := by
 have : ∀ (f : List Flt.Cl) (out : List Flt.Tx), (f.foldl (fun out c => Flt.ins out c.pre) out).length ≤ out.length + f.length := by
  intro f
  induction f with
  | nil => intro out; simp
  | cons c f ih =>
   intro out
   have h1 := ih (Flt.ins out c.pre)
   have h2 := Flt.ins_len out c.pre
   rw [List.foldl_cons, List.length_cons]
   omega
 have := this f []
 simpa [Flt.prefixes] using this
theorem Flt.piece_len (f : List Flt.Cl) (p : Flt.Tx) : (Flt.piece f p).length ≤ 202 := (two_bd 2 _ _).2
theorem Flt.flat_len {α β : Type} (h : α → List β) (k : Nat) : ∀ (l : List α), (∀ x ∈ l, (h x).length ≤ k) → (l.flatMap h).length ≤ l.length * k
 | [], _ => by simp
 | x :: l, hk => by
  have h1 := hk x (by simp)
  have h2 := Flt.flat_len h k l (fun y hy => hk y (List.mem_cons_of_mem _ hy))
  rw [List.flatMap_cons, List.length_append, List.length_cons, Nat.add_one_mul]
  omega
theorem Flt.norm_len (f : List Flt.Cl) : (Flt.norm f).length ≤ f.length * 202 := by
 have h1 := Flt.flat_len (fun p => Flt.clauses p (Flt.piece f p)) 202 (Flt.prefixes f) (fun p _ => by unfold Flt.clauses; rw [List.length_map]; exact Flt.piece_len f p)
 have h2 := Flt.prefixes_len f
 unfold Flt.norm
 exact Nat.le_trans h1 (Nat.mul_le_mul_right _ h2)
theorem Flt.right_bd {c : Flt.Cl} (h : Flt.Right c) : Go.Proofs.YtpmolinmopgbdaaGreat.Bd (Flt.rg c) := by
 obtain ⟨-, h1, h2, h3⟩ := h
 unfold Go.Proofs.YtpmolinmopgbdaaGreat.Bd Flt.rg
 simp only
 omega
theorem Flt.norm_pre {f : List Flt.Cl} {c : Flt.Cl} (h : c ∈ Flt.norm f) : ∃ d ∈ f, d.pre = c.pre := by
 have hp := Flt.norm_mem.1 h
 have hin : c.pre ∈ Flt.prefixes f := by
  refine Classical.byContradiction (fun hn => ?_)
  rw [Flt.piece_out hn] at hp
  cases hp
 exact (Flt.prefixes_mem f _).1 hin
structure FilterOk : Prop where
 all : ∀ (w : World), Calls Tryz.prog 35 #[] w fun e w' => ∃ v', e = .returned v' ∧ Cls w' (NewIn w w') v' Flt.whole ∧ Below w.heap.size w w'
 norm : ∀ {w : World} {F : Nat → Prop} {v : Value} {f : List Flt.Cl}, Cls w F v f → f.length ≤ 100000 → (∀ c ∈ f, Flt.Right c) → (∀ c ∈ f, Flt.Bd c) → Calls Tryz.prog 68 #[v] w fun e w' => ∃ v', e = .returned v' ∧ Cls w' (NewIn w w') v' (Flt.norm f) ∧ Below w.heap.size w w'
 equal : ∀ {w : World} {F G : Nat → Prop} {u v : Value} {f g : List Flt.Cl}, Cls w F u f → Cls w G v g → f.length ≤ 100000 → g.length ≤ 100000 → Calls Tryz.prog 50 #[u, v] w fun e w' => e = .returned (.bool (decide (f = g))) ∧ Below w.heap.size w w'
theorem Cls.at {w : World} {F : Nat → Prop} {b o : Nat} {n cap : Nat} {l : List Flt.Cl} (h : Cls w F (.slice (some ⟨b, o, none⟩) n cap) l) {i : Nat} {x : Flt.Cl} (hx : l[i]? = some x) :
  w.cell? ⟨b, o + i * 3, none⟩ = some (.string (mk x.pre)) ∧ w.cell? ⟨b, o + i * 3 + 1, none⟩ = some (.int .i64 x.lo) ∧ w.cell? ⟨b, o + i * 3 + 2, none⟩ = some (.int .i64 x.hi) := by
 obtain ⟨A, c, e, -, hat⟩ := h
 injection e with e1 e2 e3
 obtain ⟨b', o', e, -, -, hc⟩ := hat (by obtain ⟨hl, _⟩ := List.getElem?_eq_some_iff.1 hx; omega)
 rw [e] at e1
 injection e1 with e1
 injection e1 with e1 e2
 subst e1 e2
 exact ⟨hc i x hx 0 _ rfl, hc i x hx 1 _ rfl, hc i x hx 2 _ rfl⟩
end Go.Proofs.YtpmolinmopgbdaaGreat
