import Derived.Test.YtpafpegcodempaaGreatCom1
import Derived.Test.YtpafpegcodempaaGreatCom2
import Derived.Deep.AppendLies
import Derived.Laws.AppendOwn
import Derived.Lib.Hide
import Derived.OwnWalk
import Derived.Tactics
import Derived.Deep.QuietTactic
import Derived.BigQuiet
import Derived.Deep.RegionWith
import Derived.WalkSpells
set_option maxRecDepth 100000
set_option linter.all false
namespace Go.Proofs.YtpafpegcodempaaGreat
open Go.RowKit
structure Kept (F : Nat → Prop) (w w' : World) : Prop where
 os : w'.os = w.os
 tape : w'.tape = w.tape
 output : w'.output = w.output
 size : w.heap.size ≤ w'.heap.size
 block : ∀ k, k < w.heap.size → ¬ F k → w'.heap[k]? = w.heap[k]?
def Grow (F : Nat → Prop) (w w' : World) (k : Nat) : Prop := F k ∨ (w.heap.size ≤ k ∧ k < w'.heap.size)
section
variable {F G : Nat → Prop} {a b c w w' : World}
theorem Kept.refl (F : Nat → Prop) (w : World) : Kept F w w := ⟨rfl, rfl, rfl, Nat.le_refl _, fun _ _ _ => rfl⟩
theorem Kept.trans (h : Kept F a b) (k : Kept G b c) (hG : ∀ i, i < a.heap.size → G i → F i) : Kept F a c :=
 ⟨k.os.trans h.os, k.tape.trans h.tape, k.output.trans h.output, Nat.le_trans h.size k.size, fun i hi hn => (k.block i (Nat.lt_of_lt_of_le hi h.size) (fun hg => hn (hG i hi hg))).trans (h.block i hi hn)⟩
theorem Kept.mono (h : Kept F a b) (hF : ∀ i, F i → G i) : Kept G a b := ⟨h.os, h.tape, h.output, h.size, fun i hi hn => h.block i hi (fun hf => hn (hF i hf))⟩
theorem Kept.ofBelow (h : Below a.heap.size a b) (F : Nat → Prop) : Kept F a b := ⟨h.os, h.tape, h.output, h.size, fun i hi _ => h.block i hi⟩
theorem Kept.ofGrown {r : Option Nat} (h : a.grownBy b r) (hr : ∀ i, r = some i → F i) : Kept F a b := ⟨h.os, h.tape, h.output, h.size, fun i hi hn => h.block i hi (fun e => hn (hr i e.symm))⟩
theorem Kept.grown {i : Nat} (h : Kept (fun k => k = i) a b) : a.grownBy b (some i) := ⟨h.os, h.tape, h.output, h.size, fun k hk hn => h.block k hk (fun e => hn (by rw [e]))⟩
theorem Kept.below (h : Kept F a b) {B : Nat} (hB : B ≤ a.heap.size) (hF : ∀ i, F i → B ≤ i) : Below B a b := ⟨h.os, h.tape, h.output, h.size, fun i hi => h.block i (by omega) (fun hf => by have := hF i hf; omega)⟩
theorem Kept.drew (h : Kept F a b) : Kept F a b.drew := ⟨h.os, h.tape, h.output, h.size, h.block⟩
theorem Kept.alloc (h : Kept F a b) (o : Obj) : Kept F a (b.alloc o) :=
 h.trans (G := F) ⟨rfl, rfl, rfl, by simp, fun i hi _ => Below.heap_alloc b o i hi⟩ (fun _ _ h => h)
theorem Kept.stored (h : Kept F a b) {p : Addr} (hp : F p.block ∨ a.heap.size ≤ p.block) (u : Value) : Kept F a (b.setCell p u) :=
 ⟨h.os, h.tape, h.output, by simpa [World.setCell] using h.size, fun i hi hn => by
  rcases hp with hp | hp
  ·exact (Below.heap_setCell b p u i (fun e => hn (by rw [e]; exact hp))).trans (h.block i hi hn)
  ·exact (Below.heap_setCell b p u i (by omega)).trans (h.block i hi hn)⟩
theorem Grow.old {k : Nat} (h : F k) : Grow F a b k := Or.inl h
theorem Grow.lt {k : Nat} (h : Grow F a b k) (hF : ∀ k, F k → k < a.heap.size) (hs : a.heap.size ≤ b.heap.size) : k < b.heap.size := by
 rcases h with h | h
 ·exact Nat.lt_of_lt_of_le (hF k h) hs
 ·exact h.2
theorem Grow.trans {k : Nat} (h : Grow (Grow F a b) b c k) (hab : a.heap.size ≤ b.heap.size) (hbc : b.heap.size ≤ c.heap.size) : Grow F a c k := by
 rcases h with (h | h) | h
 ·exact Or.inl h
 ·exact Or.inr ⟨h.1, by omega⟩
 ·exact Or.inr ⟨by omega, h.2⟩
theorem Grow.within {k : Nat} (h : Grow F a b k) (hbc : b.heap.size ≤ c.heap.size) : Grow F a c k := by
 rcases h with h | h
 ·exact Or.inl h
 ·exact Or.inr ⟨h.1, by omega⟩
theorem Kept.same (h : Kept F w w') {k : Nat} (hk : k < w.heap.size) (hn : ¬ F k) : w'.heap[k]? = w.heap[k]? := h.block k hk hn
theorem Kept.cell (h : Kept F w w') {p : Addr} (hk : p.block < w.heap.size) (hn : ¬ F p.block) : w'.cell? p = w.cell? p := World.cell?_of_block (w := w) (h.block p.block hk hn)
theorem Row.kept {t : TypeId} {i : Nat} {cs : Array Value} (hr : Row w i t cs) (h : Kept F w w') (hn : ¬ F i) : Row w' i t cs := (h.block i hr.inHeap hn).trans hr
end
def Cells (w : World) (F : Nat → Prop) (v : Value) (us : List Value) : Prop :=
 ∃ A cap, v = .slice A us.length cap ∧ us.length ≤ cap ∧ (0 < us.length → ∃ b o, A = some ⟨b, o, none⟩ ∧ F b ∧ b < w.heap.size ∧ ∀ i u, us[i]? = some u → w.cell? ⟨b, o + i, none⟩ = some u)
section
variable {F G : Nat → Prop} {w w' : World} {v : Value} {us : List Value}
theorem Cells.none (w : World) (F : Nat → Prop) : Cells w F (.slice none 0 0) [] := ⟨Option.none, 0, rfl, Nat.le_refl _, fun h => absurd h (by simp)⟩
theorem Cells.kept (h : Cells w F v us) (k : Kept G w w') (hd : ∀ i, F i → ¬ G i) : Cells w' F v us := by
 obtain ⟨A, cap, h1, h2, h3⟩ := h
 refine ⟨A, cap, h1, h2, fun hp => ?_⟩
 obtain ⟨b, o, e, hb, hl, hc⟩ := h3 hp
 exact ⟨b, o, e, hb, Nat.lt_of_lt_of_le hl k.size, fun i u hu => (k.cell (p := ⟨b, o + i, Option.none⟩) hl (hd b hb)).trans (hc i u hu)⟩
theorem Cells.mono (h : Cells w F v us) (hF : ∀ i, F i → G i) : Cells w G v us := by
 obtain ⟨A, cap, h1, h2, h3⟩ := h
 refine ⟨A, cap, h1, h2, fun hp => ?_⟩
 obtain ⟨b, o, e, hb, r⟩ := h3 hp
 exact ⟨b, o, e, hF b hb, r⟩
theorem Cells.ofOwn {base t n : Nat} (h : w.ownsRow base t 1 v n us) (hF : ∀ b, v.ownBlock = some b → base ≤ b → b < w.heap.size → F b) : Cells w F v us := by
 have hn : us.length = n := by rw [h.1, Nat.mul_one]
 subst hn
 rcases h.2 with ⟨hv, h0⟩ | ⟨g, cap, cur, hv, hb, hg, hc, hm, hs, ht⟩
 ·rw [hv]
  have : us = [] := List.eq_nil_of_length_eq_zero h0
  rw [this]
  exact Cells.none _ _
 ·refine ⟨some ⟨g, 0, Option.none⟩, cap, hv, hc, fun _ => ⟨g, 0, rfl, hF g (by rw [hv]; rfl) hb (lt_of_block hg), lt_of_block hg, fun i u hu => ?_⟩⟩
  rw [cell_of_row w g _ cur t (0, 0) hg, Nat.zero_add]
  rw [← ht, List.getElem?_take] at hu
  split at hu
  ·rw [Array.getElem?_toList] at hu; exact hu
  ·cases hu
end
open Go.RowKit
def Rws {α : Type} (k : Nat) (f : α → List Value) (w : World) (F : Nat → Prop) (v : Value) (l : List α) : Prop :=
 ∃ A cap, v = .slice A l.length cap ∧ l.length ≤ cap ∧ (0 < l.length → ∃ b o, A = some ⟨b, o, none⟩ ∧ F b ∧ b < w.heap.size ∧ ∀ i x, l[i]? = some x → ∀ j u, (f x)[j]? = some u → w.cell? ⟨b, o + i * k + j, none⟩ = some u)
section
variable {α : Type} {k : Nat} {f : α → List Value} {w w' : World} {F G : Nat → Prop} {v : Value} {l : List α}
theorem Rws.none (w : World) (F : Nat → Prop) (c : Nat) : Rws k f w F (.slice none 0 c) [] := ⟨Option.none, c, rfl, Nat.zero_le _, fun h => absurd h (by simp)⟩
theorem Rws.empty (w : World) (F : Nat → Prop) (A : Option Addr) (c : Nat) : Rws k f w F (.slice A 0 c) [] := ⟨A, c, rfl, Nat.zero_le _, fun h => absurd h (by simp)⟩
theorem Rws.kept (h : Rws k f w F v l) (hk : Kept G w w') (hd : ∀ i, F i → ¬ G i) : Rws k f w' F v l := by
 obtain ⟨A, cap, h1, h2, h3⟩ := h
 refine ⟨A, cap, h1, h2, fun hp => ?_⟩
 obtain ⟨b, o, e, hb, hl, hc⟩ := h3 hp
 exact ⟨b, o, e, hb, Nat.lt_of_lt_of_le hl hk.size, fun i x hx j u hu => (hk.cell (p := ⟨b, _, Option.none⟩) hl (hd b hb)).trans (hc i x hx j u hu)⟩
theorem Rws.below (h : Rws k f w F v l) (hk : Below w.heap.size w w') : Rws k f w' F v l := h.kept (Kept.ofBelow hk (fun _ => False)) (fun _ _ h => h)
theorem Rws.mono (h : Rws k f w F v l) (hF : ∀ i, F i → G i) : Rws k f w G v l := by
 obtain ⟨A, cap, h1, h2, h3⟩ := h
 refine ⟨A, cap, h1, h2, fun hp => ?_⟩
 obtain ⟨b, o, e, hb, r⟩ := h3 hp
 exact ⟨b, o, e, hF b hb, r⟩
theorem Rws.lt (h : Rws k f w F v l) : Rws k f w (fun i => F i ∧ i < w.heap.size) v l := by
 obtain ⟨A, cap, h1, h2, h3⟩ := h
 refine ⟨A, cap, h1, h2, fun hp => ?_⟩
 obtain ⟨b, o, e, hb, r⟩ := h3 hp
 exact ⟨b, o, e, ⟨hb, r.1⟩, r⟩
theorem rows_at : ∀ (l : List α), (∀ x ∈ l, (f x).length = k) → ∀ (i : Nat) (x : α), l[i]? = some x → ∀ (j : Nat) (u : Value), (f x)[j]? = some u → (l.flatMap f)[i * k + j]? = some u
 | [], _, i, x, hx, _, _, _ => by cases hx
 | y :: l, hk, 0, x, hx, j, u, hu => by
  simp at hx
  subst hx
  rw [List.flatMap_cons, Nat.zero_mul, Nat.zero_add, List.getElem?_append_left (by obtain ⟨h, _⟩ := List.getElem?_eq_some_iff.1 hu; exact h)]
  exact hu
 | y :: l, hk, i + 1, x, hx, j, u, hu => by
  have hy := hk y (by simp)
  rw [List.flatMap_cons, List.getElem?_append_right (by rw [hy, Nat.add_one_mul]; omega), hy]
  have e : (i + 1) * k + j - k = i * k + j := by rw [Nat.add_one_mul]; omega
  rw [e]
  exact rows_at l (fun z hz => hk z (List.mem_cons_of_mem _ hz)) i x (by simpa using hx) j u hu
theorem rows_of : ∀ (l : List α), (∀ x ∈ l, (f x).length = k) → ∀ (m : Nat) (u : Value), (l.flatMap f)[m]? = some u → ∃ i x j, l[i]? = some x ∧ (f x)[j]? = some u ∧ m = i * k + j
 | [], _, m, u, h => by simp at h
 | y :: l, hk, m, u, h => by
  have hy := hk y (by simp)
  rw [List.flatMap_cons] at h
  by_cases hm : m < k
  ·rw [List.getElem?_append_left (by omega)] at h
   exact ⟨0, y, m, rfl, h, by omega⟩
  ·rw [List.getElem?_append_right (by omega), hy] at h
   obtain ⟨i, x, j, h1, h2, h3⟩ := rows_of l (fun z hz => hk z (List.mem_cons_of_mem _ hz)) _ u h
   exact ⟨i + 1, x, j, by simpa using h1, h2, by rw [Nat.add_one_mul]; omega⟩
theorem rows_len : ∀ (l : List α), (∀ x ∈ l, (f x).length = k) → (l.flatMap f).length = l.length * k
 | [], _ => by simp
 | y :: l, hk => by
  rw [List.flatMap_cons, List.length_append, rows_len l (fun z hz => hk z (List.mem_cons_of_mem _ hz)), hk y (by simp), List.length_cons, Nat.add_one_mul]
  omega
theorem Rws.ofOwn {base t n : Nat} (h : w.ownsRow base t k v n (l.flatMap f)) (hl : l.length = n) (hk : ∀ x ∈ l, (f x).length = k) (hF : ∀ b, v.ownBlock = some b → base ≤ b → b < w.heap.size → F b) : Rws k f w F v l := by
 subst hl
 rcases h.2 with ⟨hv, h0⟩ | ⟨g, cap, cur, hv, hb, hg, hc, hm, hs, ht⟩
 ·rw [hv]
  have : l = [] := List.eq_nil_of_length_eq_zero h0
  rw [this]
  exact Rws.none _ _ _
 ·refine ⟨some ⟨g, 0, Option.none⟩, cap, hv, hc, fun _ => ⟨g, 0, rfl, hF g (by rw [hv]; rfl) hb (lt_of_block hg), lt_of_block hg, fun i x hx j u hu => ?_⟩⟩
  have hr := rows_at l hk i x hx j u hu
  rw [cell_of_row w g _ cur t (0, 0) hg, Nat.zero_add]
  rw [← ht, List.getElem?_take] at hr
  split at hr
  ·rw [Array.getElem?_toList] at hr; exact hr
  ·cases hr
theorem Rws.take (h : Rws k f w F v l) {A : Option Addr} {cap : Nat} (hv : v = .slice A l.length cap) (i : Nat) (hi : i ≤ l.length) (c : Nat) (hc : i ≤ c) : Rws k f w F (.slice A i c) (l.take i) := by
 obtain ⟨B, cap', h1, h2, h3⟩ := h
 rw [h1] at hv
 injection hv with e1 e2 e3
 subst e1
 have hl : (l.take i).length = i := by rw [List.length_take]; omega
 refine ⟨B, c, by rw [hl], by rw [hl]; exact hc, fun hp => ?_⟩
 rw [hl] at hp
 obtain ⟨b, o, e, hb, hlt, hcl⟩ := h3 (by omega)
 exact ⟨b, o, e, hb, hlt, fun m x hx => hcl m x (by rw [List.getElem?_take] at hx; split at hx; exact hx; cases hx)⟩
theorem Rws.drop (h : Rws k f w F v l) {b o cap : Nat} (hv : v = .slice (some ⟨b, o, Option.none⟩) l.length cap) (i : Nat) (hi : i ≤ l.length) (c : Nat) (hc : l.length - i ≤ c) : Rws k f w F (.slice (some ⟨b, o + i * k, Option.none⟩) (l.length - i) c) (l.drop i) := by
 obtain ⟨B, cap', h1, h2, h3⟩ := h
 rw [h1] at hv
 injection hv with e1 e2 e3
 subst e1
 have hl : (l.drop i).length = l.length - i := List.length_drop
 refine ⟨_, c, by rw [hl], by rw [hl]; exact hc, fun hp => ?_⟩
 rw [hl] at hp
 obtain ⟨b', o', e, hb, hlt, hcl⟩ := h3 (by omega)
 injection e with e
 injection e with e1 e2
 subst e1 e2
 refine ⟨b, o + i * k, rfl, hb, hlt, fun m x hx j u hu => ?_⟩
 rw [List.getElem?_drop] at hx
 have := hcl (i + m) x hx j u hu
 rw [show o + (i + m) * k + j = o + i * k + m * k + j by rw [Nat.add_mul]; omega] at this
 exact this
end
section
variable {P : Program} {α : Type} {k : Nat} {f : α → List Value}
theorem join_nothing {w : World} (base : Nat) (t ty e : TypeId) (i : TypeInfo) (size c : Nat) (ht : P.underlying t = some (.slice e)) (hi : P.info? e = some i) (v : Value) (n : Nat) (xs : List Value) (hown : w.ownsRow base e size v n xs) :
  (Builtin.append_ #[t, t] ty #[v, .slice none 0 c]).run P w = .ok v w := by
 rcases hown.2 with ⟨rfl, rfl⟩ | ⟨g, cap, cur, rfl, _, _, hnc, _⟩
 ·simp [Builtin.append_, run_underlying ht, sizeOf, typeInfo, hi, Builtin.lenOf, Builtin.firstCells]
 ·simp [Builtin.append_, run_underlying ht, sizeOf, typeInfo, hi, Builtin.lenOf, Builtin.firstCells, hnc, storeCells]
theorem join_rows {w : World} (base : Nat) (t ty e : TypeId) (i : TypeInfo) (z : Value) (bytes : Nat) (ht : P.underlying t = some (.slice e)) (hi : P.info? e = some i) (hz : i.zero = some z) (hsize : i.size = k) (hby : i.bytes = bytes) (hzs : z.cells.size = k) (hsz : 0 < k)
  {v xv : Value} {n : Nat} {xs : List Value} {F : Nat → Prop} {l : List α} (hown : w.ownsRow base e k v n xs) (hx : Rws k f w F xv l) (hk : ∀ x ∈ l, (f x).length = k) (h1 : ∀ x ∈ l, ∀ u ∈ f x, u.oneCell' = true)
  (h63 : n + l.length ≤ maxLen) (hbytes : (n + l.length) * bytes ≤ 140737488355328) (hbase : base ≤ w.heap.size) :
  ∃ v' w', (Builtin.append_ #[t, t] ty #[v, xv]).run P w = .ok v' w' ∧ w'.ownsRow base e k v' (n + l.length) (xs ++ l.flatMap f) ∧ w.grownBy w' v.ownBlock := by
 obtain ⟨A, c, rfl, hc, hat⟩ := hx
 have hone : ∀ u ∈ l.flatMap f, u.oneCell' = true := by
  intro u hu
  obtain ⟨x, hx, hu⟩ := List.mem_flatMap.1 hu
  exact h1 x hx u hu
 have hgo : ∀ ad : Addr, A = some ad → (∀ j u, (l.flatMap f)[j]? = some u → w.cell? (ad.add j) = some u) → ∃ v' w', (Builtin.append_ #[t, t] ty #[v, .slice A l.length c]).run P w = .ok v' w' ∧ w'.ownsRow base e k v' (n + l.length) (xs ++ l.flatMap f) ∧ w.grownBy w' v.ownBlock := by
  rintro ad rfl hnews
  obtain ⟨v', w', r1, r2, r3, -⟩ := run_append_own w base t ty e i z k bytes ht hi hz hsize hby hzs hsz v n xs hown ad l.length c (l.flatMap f) (rows_len l hk) hnews hone h63 hbytes hbase
  exact ⟨v', w', r1, r2, r3⟩
 by_cases h0 : 0 < l.length
 ·obtain ⟨b, o, rfl, -, hbl, hcell⟩ := hat h0
  refine hgo _ rfl (fun j u hu => ?_)
  obtain ⟨m, x, r, e1, e2, rfl⟩ := rows_of l hk j u hu
  rw [Go.WideShapes.add_plain, ← Nat.add_assoc]
  exact hcell m x e1 r u e2
 ·have hl : l = [] := List.eq_nil_of_length_eq_zero (by omega)
  subst hl
  cases A with
  | none => exact ⟨v, w, join_nothing base t ty e i k c ht hi v n xs hown, by simpa using hown, rfl, rfl, rfl, Nat.le_refl _, fun _ _ _ => rfl⟩
  | some ad => exact hgo ad rfl (fun j u hu => by simp at hu)
end
open Go.RowKit
def mk (l : List UInt8) : ByteArray := ⟨l.toArray⟩
theorem mk_data (l : List UInt8) : (mk l).data.toList = l := rfl
theorem mk_len (l : List UInt8) : (mk l).size = l.length := by rw [Lib.size_eq]; rfl
theorem mk_of (s : ByteArray) : mk s.data.toList = s := bytes_ext rfl
theorem mk_append (a b : List UInt8) : mk a ++ mk b = mk (a ++ b) := bytes_ext (by rw [ByteArray.data_append, Array.toList_append]; rfl)
def texts (l : List (List UInt8)) : List Value := l.map fun t => Value.string (mk t)
theorem texts_len (l : List (List UInt8)) : (texts l).length = l.length := List.length_map _
theorem texts_at {l : List (List UInt8)} {i : Nat} {t : List UInt8} (h : l[i]? = some t) : (texts l)[i]? = some (.string (mk t)) := by
 unfold texts
 rw [List.getElem?_map, h]; rfl
def NewIn (w w' : World) (k : Nat) : Prop := w.heap.size ≤ k ∧ k < w'.heap.size
open Go.RowKit
def flT (s : List UInt8) : Fl := ⟨0, mk s, true⟩
def flN (n : Int) : Fl := ⟨n, ⟨#[]⟩, false⟩
def fl3 (f : Fl) : List Value := [.int .i64 f.num, .string f.txt, .bool f.isT]
theorem fl3_len (f : Fl) : (fl3 f).length = 3 := rfl
theorem fl3_one (f : Fl) : ∀ u ∈ fl3 f, u.oneCell' = true := by
 intro u hu
 unfold fl3 at hu
 simp only [List.mem_cons, List.not_mem_nil, or_false] at hu
 rcases hu with rfl | rfl | rfl <;> rfl
theorem flT_bytes (s : List UInt8) : (flT s).bytes = Leb.enc s.length ++ s := by
 unfold Fl.bytes Fl.head Fl.body flT numOf strOf
 simp only [if_true, mk_data, mk_len, Int.toNat_natCast]
theorem fieldInfo : (Tryz.prog.info? 164).map (fun i => (i.zero, i.size, i.bytes)) = some (some (.agg #[.int .i64 0, .string ⟨#[]⟩, .bool false]), 3, 32) := by kernel_rfl
theorem Rws.made {α : Type} {k : Nat} {f : α → List Value} (w : World) (t : TypeId) (l : List α) (hk : ∀ x ∈ l, (f x).length = k) :
  Rws k f (w.alloc (.cells (l.flatMap f).toArray t)) (fun i => i = w.heap.size) (.slice (some ⟨w.heap.size, 0, Option.none⟩) l.length l.length) l := by
 refine ⟨_, _, rfl, Nat.le_refl _, fun _ => ⟨w.heap.size, 0, rfl, rfl, by simp, fun i x hx j u hu => ?_⟩⟩
 have hr := rows_at l hk i x hx j u hu
 rw [(Row.made w _ _).at, Nat.zero_add]
 simpa using hr
theorem fields_at {w : World} {F : Nat → Prop} {b cap : Nat} {fs : List Fl} (h : Rws 3 fl3 w F (.slice (some ⟨b, 0, none⟩) fs.length cap) fs) (h0 : 0 < fs.length) : FieldsAt w b 0 fs := by
 intro i f hf
 obtain ⟨A, c, e, -, hat⟩ := h
 injection e with e1 e2 e3
 obtain ⟨b', o', e, -, -, hc⟩ := hat h0
 rw [e] at e1
 injection e1 with e1
 injection e1 with e1 e2
 subst e1 e2
 exact ⟨hc i f hf 0 _ rfl, hc i f hf 1 _ rfl, hc i f hf 2 _ rfl⟩
theorem gb_kept {F : Nat → Prop} {a w w' : World} {r : Option Nat} (h : a.grownBy w r) (k : Kept F w w') (hF : ∀ i, F i → a.heap.size ≤ i) : a.grownBy w' r :=
 ⟨k.os.trans h.os, k.tape.trans h.tape, k.output.trans h.output, Nat.le_trans h.size k.size, fun i hi hn => (k.block i (Nat.lt_of_lt_of_le hi h.size) (fun hf => by have := hF i hf; omega)).trans (h.block i hi hn)⟩
end Go.Proofs.YtpafpegcodempaaGreat
namespace Go.Proofs.YtpafpegcodempaaGreat.Ver
structure V where
 by_ : Int
 n : Int
deriving DecidableEq
structure S where
 time : Int
 v : V
deriving DecidableEq
def Right (v : V) : Prop := 1 ≤ v.by_ ∧ v.by_ ≤ 64 ∧ 1 ≤ v.n
def RightS (s : S) : Prop := Right s.v ∧ 1 ≤ s.time
def Before (a b : V) : Prop := a.by_ < b.by_ ∨ (a.by_ = b.by_ ∧ a.n < b.n)
def Older (a b : S) : Prop := a.time < b.time ∨ (a.time = b.time ∧ Before a.v b.v)
instance (v : V) : Decidable (Right v) := inferInstanceAs (Decidable (_ ∧ _))
instance (s : S) : Decidable (RightS s) := inferInstanceAs (Decidable (_ ∧ _))
instance (a b : V) : Decidable (Before a b) := inferInstanceAs (Decidable (_ ∨ _))
instance (a b : S) : Decidable (Older a b) := inferInstanceAs (Decidable (_ ∨ _))
theorem v_ext {a b : V} (h : a.by_ = b.by_) (k : a.n = b.n) : a = b := by cases a; cases b; simp_all
theorem before_irrefl (a : V) : ¬ Before a a := by unfold Before; omega
theorem before_trans {a b c : V} (h : Before a b) (k : Before b c) : Before a c := by unfold Before at *; omega
theorem before_or {a b : V} (h : a ≠ b) : Before a b ∨ Before b a := by
 by_cases h1 : a.by_ = b.by_
 ·by_cases h2 : a.n = b.n
  ·exact absurd (v_ext h1 h2) h
  ·unfold Before; omega
 ·unfold Before; omega
theorem before_asymm {a b : V} (h : Before a b) : ¬ Before b a := fun k => before_irrefl a (before_trans h k)
def Up (l : List V) : Prop := l.Pairwise Before
def put (l : List V) (v : V) : List V := if (l.dropWhile fun x => decide (Before x v)).head? = some v then l else l.takeWhile (fun x => decide (Before x v)) ++ v :: l.dropWhile fun x => decide (Before x v)
def sort (l : List V) : List V := l.foldl put []
theorem up_same : ∀ {l m : List V}, Up l → Up m → (∀ x, x ∈ l ↔ x ∈ m) → l = m
 | [], [], _, _, _ => rfl
 | [], b :: m, _, _, h => by have := (h b).2 (by simp); cases this
 | a :: l, [], _, _, h => by have := (h a).1 (by simp); cases this
 | a :: l, b :: m, hl, hm, h => by
  have h1 := List.pairwise_cons.1 hl
  have h2 := List.pairwise_cons.1 hm
  have e : a = b := by
   refine Classical.byContradiction (fun e => ?_)
   have ha : a ∈ m := ((List.mem_cons.1 ((h a).1 (by simp))).resolve_left e)
   have hb : b ∈ l := ((List.mem_cons.1 ((h b).2 (by simp))).resolve_left (fun k => e k.symm))
   exact before_asymm (h1.1 b hb) (h2.1 a ha)
  subst e
  rw [up_same h1.2 h2.2 (fun x => ?_)]
  have hx := h x
  constructor
  ·intro hm'
   rcases List.mem_cons.1 (hx.1 (List.mem_cons_of_mem _ hm')) with rfl | k
   ·exact absurd (h1.1 x hm') (before_irrefl x)
   ·exact k
  ·intro hm'
   rcases List.mem_cons.1 (hx.2 (List.mem_cons_of_mem _ hm')) with rfl | k
   ·exact absurd (h2.1 x hm') (before_irrefl x)
   ·exact k
theorem put_mem {l : List V} {v x : V} : x ∈ put l v ↔ x = v ∨ x ∈ l := by
 have e : l.takeWhile (fun x => decide (Before x v)) ++ l.dropWhile (fun x => decide (Before x v)) = l := List.takeWhile_append_dropWhile
 unfold put
 split
 ·rename_i h
  have hp : v ∈ l := by
   rw [← e]
   exact List.mem_append.2 (Or.inr (List.mem_of_mem_head? (by rw [h]; rfl)))
  constructor
  ·exact Or.inr
  ·rintro (rfl | h)
   ·exact hp
   ·exact h
 ·rw [List.mem_append, List.mem_cons]
  constructor
  ·rintro (h | h | h)
   ·exact Or.inr (by rw [← e]; exact List.mem_append.2 (Or.inl h))
   ·exact Or.inl h
   ·exact Or.inr (by rw [← e]; exact List.mem_append.2 (Or.inr h))
  ·rintro (h | h)
   ·exact Or.inr (Or.inl h)
   ·rw [← e] at h
    rcases List.mem_append.1 h with h | h
    ·exact Or.inl h
    ·exact Or.inr (Or.inr h)
theorem take_lt {l : List V} {v : V} : ∀ x ∈ l.takeWhile (fun x => decide (Before x v)), Before x v := by
 intro x hx
 induction l with
 | nil => cases hx
 | cons a l ih =>
  rw [List.takeWhile_cons] at hx
  by_cases ha : Before a v
  ·rw [if_pos (decide_eq_true ha)] at hx
   rcases List.mem_cons.1 hx with rfl | hx
   ·exact ha
   ·exact ih hx
  ·rw [if_neg (by simpa using ha)] at hx; cases hx
theorem drop_ge {l : List V} (h : Up l) {v : V} : ∀ x ∈ l.dropWhile (fun x => decide (Before x v)), ¬ Before x v := by
 intro x hx
 induction l with
 | nil => cases hx
 | cons a l ih =>
  have h1 := List.pairwise_cons.1 h
  rw [List.dropWhile_cons] at hx
  by_cases ha : Before a v
  ·rw [if_pos (decide_eq_true ha)] at hx
   exact ih h1.2 hx
  ·rw [if_neg (by simpa using ha)] at hx
   rcases List.mem_cons.1 hx with rfl | hx
   ·exact ha
   ·exact fun k => ha (before_trans (h1.1 x hx) k)
theorem put_up {l : List V} (h : Up l) (v : V) : Up (put l v) := by
 have e : l.takeWhile (fun x => decide (Before x v)) ++ l.dropWhile (fun x => decide (Before x v)) = l := List.takeWhile_append_dropWhile
 unfold put
 split
 ·exact h
 ·rename_i hne
  have h0 : Up (l.takeWhile (fun x => decide (Before x v)) ++ l.dropWhile (fun x => decide (Before x v))) := by rw [e]; exact h
  obtain ⟨h1, h2, h3⟩ := List.pairwise_append.1 h0
  have hgt : ∀ x ∈ l.dropWhile (fun x => decide (Before x v)), Before v x := by
   intro x hx
   have hn := drop_ge h x hx
   by_cases ex : x = v
   ·exfalso
    subst ex
    cases hd : l.dropWhile (fun y => decide (Before y x)) with
    | nil => rw [hd] at hx; cases hx
    | cons a t =>
     rw [hd] at hne hx h2
     have hax : a ≠ x := fun k => hne (by rw [k]; rfl)
     have ht : x ∈ t := (List.mem_cons.1 hx).resolve_left (fun k => hax k.symm)
     exact drop_ge h a (by rw [hd]; simp) ((List.pairwise_cons.1 h2).1 x ht)
   ·exact (before_or ex).resolve_left hn
  refine List.pairwise_append.2 ⟨h1, List.pairwise_cons.2 ⟨hgt, h2⟩, fun x hx y hy => ?_⟩
  rcases List.mem_cons.1 hy with rfl | hy
  ·exact take_lt x hx
  ·exact before_trans (take_lt x hx) (hgt y hy)
theorem sort_aux (l : List V) : ∀ out : List V, Up out → Up (l.foldl put out) ∧ ∀ x, x ∈ l.foldl put out ↔ x ∈ out ∨ x ∈ l := by
 induction l with
 | nil => intro out h; exact ⟨h, fun x => by simp⟩
 | cons a l ih =>
  intro out h
  obtain ⟨h1, h2⟩ := ih (put out a) (put_up h a)
  refine ⟨h1, fun x => ?_⟩
  rw [List.foldl_cons, h2 x, put_mem, List.mem_cons]
  constructor
  ·rintro ((h | h) | h)
   ·exact Or.inr (Or.inl h)
   ·exact Or.inl h
   ·exact Or.inr (Or.inr h)
  ·rintro (h | h | h)
   ·exact Or.inl (Or.inr h)
   ·exact Or.inl (Or.inl h)
   ·exact Or.inr h
theorem sort_up (l : List V) : Up (sort l) := (sort_aux l [] List.Pairwise.nil).1
theorem sort_mem (l : List V) (x : V) : x ∈ sort l ↔ x ∈ l := by
 have := (sort_aux l [] List.Pairwise.nil).2 x
 unfold sort
 rw [this]
 simp
theorem sort_is {l m : List V} (h : Up m) (hm : ∀ x, x ∈ m ↔ x ∈ l) : sort l = m := up_same (sort_up l) h (fun x => (sort_mem l x).trans (hm x).symm)
theorem put_len (l : List V) (v : V) : (put l v).length ≤ l.length + 1 := by
 have e : l.takeWhile (fun x => decide (Before x v)) ++ l.dropWhile (fun x => decide (Before x v)) = l := List.takeWhile_append_dropWhile
 have e2 := congrArg List.length e
 rw [List.length_append] at e2
 unfold put
 split
 ·omega
 ·rw [List.length_append, List.length_cons]; omega
theorem sort_take (l : List V) (i : Nat) (x : V) (hx : l[i]? = some x) : sort (l.take (i + 1)) = put (sort (l.take i)) x := by
 obtain ⟨hl, he⟩ := List.getElem?_eq_some_iff.1 hx
 unfold sort
 rw [List.take_succ_eq_append_getElem hl, he, List.foldl_append]
 rfl
theorem sort_len (l : List V) : (sort l).length ≤ l.length := by
 have : ∀ (l out : List V), (l.foldl put out).length ≤ out.length + l.length := by
  intro l
  induction l with
  | nil => intro out; simp
  | cons a l ih =>
   intro out
   have h1 := ih (put out a)
   have h2 := put_len out a
   rw [List.foldl_cons, List.length_cons]
   omega
 have := this l []
 simpa [sort] using this
def most (time : Int) (l : List Int) : Int := l.foldl max (max time 0)
theorem put_cut : ∀ (l : List V) (k : V) (n : Nat), (∀ x ∈ l.take n, Before x k) → (∀ x, l[n]? = some x → ¬ Before x k) → n ≤ l.length →
  l.takeWhile (fun q => decide (Before q k)) = l.take n ∧ l.dropWhile (fun q => decide (Before q k)) = l.drop n
 | l, k, 0, _, h2, _ => by
  cases l with
  | nil => exact ⟨rfl, rfl⟩
  | cons y l =>
   have hy := h2 y rfl
   exact ⟨by rw [List.takeWhile_cons, if_neg (by simpa using hy)]; rfl, by rw [List.dropWhile_cons, if_neg (by simpa using hy)]; rfl⟩
 | [], k, n + 1, _, _, hn => by simp at hn
 | y :: l, k, n + 1, h1, h2, hn => by
  have hy := h1 y (by simp)
  obtain ⟨r1, r2⟩ := put_cut l k n (fun x hx => h1 x (by simp [hx])) (fun x hx => h2 x (by simpa using hx)) (by simpa using hn)
  exact ⟨by rw [List.takeWhile_cons, if_pos (by simpa using hy), r1]; rfl, by rw [List.dropWhile_cons, if_pos (by simpa using hy), r2]; rfl⟩
theorem put_at {l : List V} {k : V} {n : Nat} (h1 : ∀ x ∈ l.take n, Before x k) (h2 : ∀ x, l[n]? = some x → ¬ Before x k) (hn : n ≤ l.length) : put l k = if l[n]? = some k then l else l.take n ++ [k] ++ l.drop n := by
 obtain ⟨r1, r2⟩ := put_cut l k n h1 h2 hn
 unfold put
 rw [r1, r2, List.head?_drop]
 simp
end Go.Proofs.YtpafpegcodempaaGreat.Ver
namespace Go.Proofs.YtpafpegcodempaaGreat.Vec
open Ver (V Right)
def at_ (v : List Int) (i : Nat) : Int := if 1 ≤ i ∧ i ≤ 64 then max ((v[i]?).getD 0) 0 else 0
def num (v : List Int) (by_ : Int) : Int := if 1 ≤ by_ ∧ by_ ≤ 64 then at_ v by_.toNat else 0
def make (f : Nat → Int) : List Int := (List.range 65).map f
def clean (v : List Int) : List Int := make (at_ v)
def Has (v : List Int) (x : V) : Prop := Right x ∧ x.n ≤ num v x.by_
instance (v : List Int) (x : V) : Decidable (Has v x) := inferInstanceAs (Decidable (_ ∧ _))
def Covers (a b : List Int) : Prop := ∀ i, i < 65 → at_ b i ≤ at_ a i
instance (a b : List Int) : Decidable (Covers a b) := inferInstanceAs (Decidable (∀ i, i < 65 → _))
def join (a b : List Int) : List Int := make fun i => max (at_ a i) (at_ b i)
def meet (a b : List Int) : List Int := make fun i => min (at_ a i) (at_ b i)
def up (v : List Int) (x : V) : List Int := if Right x ∧ at_ v x.by_.toNat < x.n then v.set x.by_.toNat x.n else v
def add (v : List Int) (x : V) : List Int := up (clean v) x
def ofl (l : List V) : List Int := l.foldl up (List.replicate 65 0)
def ends (v : List Int) : List V := ((List.range 65).filter fun i => decide (0 < at_ v i)).map fun (i : Nat) => ⟨(i : Int), at_ v i⟩
def Plain (v : List Int) : Prop := v.length = 65 ∧ ∀ i, i < 65 → v[i]? = some (at_ v i)
theorem make_len (f : Nat → Int) : (make f).length = 65 := by simp [make]
theorem make_at (f : Nat → Int) (i : Nat) (h : i < 65) : (make f)[i]? = some (f i) := by
 unfold make
 rw [List.getElem?_map, List.getElem?_range h]; rfl
theorem at_nonneg (v : List Int) (i : Nat) : 0 ≤ at_ v i := by unfold at_; split <;> omega
theorem at_zero (v : List Int) (i : Nat) (h : ¬ (1 ≤ i ∧ i ≤ 64)) : at_ v i = 0 := if_neg h
theorem at_make (f : Nat → Int) (i : Nat) (h : 1 ≤ i ∧ i ≤ 64) (h0 : 0 ≤ f i) : at_ (make f) i = f i := by
 unfold at_
 rw [if_pos h, make_at f i (by omega)]
 show max (f i) 0 = f i
 omega
theorem make_plain (f : Nat → Int) (h : ∀ i, 0 ≤ f i) (hz : f 0 = 0) : Plain (make f) := by
 refine ⟨make_len f, fun i hi => ?_⟩
 rw [make_at f i hi]
 by_cases hr : 1 ≤ i ∧ i ≤ 64
 ·rw [at_make f i hr (h i)]
 ·rw [at_zero _ _ hr]
  have : i = 0 := by omega
  rw [this, hz]
theorem at_clean (v : List Int) (i : Nat) : at_ (clean v) i = at_ v i := by
 by_cases h : 1 ≤ i ∧ i ≤ 64
 ·exact at_make _ i h (at_nonneg v i)
 ·rw [at_zero _ _ h, at_zero _ _ h]
theorem at_join (a b : List Int) (i : Nat) : at_ (join a b) i = max (at_ a i) (at_ b i) := by
 by_cases h : 1 ≤ i ∧ i ≤ 64
 ·exact at_make _ i h (by have := at_nonneg a i; omega)
 ·rw [at_zero _ _ h, at_zero _ _ h, at_zero _ _ h]; rfl
theorem clean_plain (v : List Int) : Plain (clean v) := make_plain _ (at_nonneg v) (at_zero v 0 (by omega))
theorem join_plain (a b : List Int) : Plain (join a b) := make_plain _ (fun i => by have := at_nonneg a i; omega) (by rw [at_zero a 0 (by omega), at_zero b 0 (by omega)]; rfl)
theorem plain_ext {a b : List Int} (ha : Plain a) (hb : Plain b) (h : ∀ i, at_ a i = at_ b i) : a = b := by
 refine List.ext_getElem? (fun i => ?_)
 by_cases hi : i < 65
 ·rw [ha.2 i hi, hb.2 i hi, h]
 ·rw [List.getElem?_eq_none (by rw [ha.1]; omega), List.getElem?_eq_none (by rw [hb.1]; omega)]
theorem plain_clean {v : List Int} (h : Plain v) : clean v = v := plain_ext (clean_plain v) h (at_clean v)
theorem num_of (v : List Int) {x : V} (h : Right x) : num v x.by_ = at_ v x.by_.toNat := if_pos ⟨h.1, h.2.1⟩
theorem has_at (v : List Int) (x : V) : Has v x ↔ Right x ∧ x.n ≤ at_ v x.by_.toNat := by
 unfold Has
 exact and_congr_right (fun h => by rw [num_of v h])
theorem up_len (v : List Int) (x : V) : (up v x).length = v.length := by
 unfold up
 split
 ·exact List.length_set
 ·rfl
theorem up_yes {v : List Int} {x : V} (h : Right x ∧ at_ v x.by_.toNat < x.n) : up v x = v.set x.by_.toNat x.n := if_pos h
theorem up_no {v : List Int} {x : V} (h : ¬ (Right x ∧ at_ v x.by_.toNat < x.n)) : up v x = v := if_neg h
theorem at_set_self {v : List Int} (hv : v.length = 65) {i : Nat} {n : Int} (hi : 1 ≤ i ∧ i ≤ 64) (hn : 0 ≤ n) : at_ (v.set i n) i = n := by
 unfold at_
 rw [if_pos hi, List.getElem?_set_self (by omega)]
 show max n 0 = n
 omega
theorem at_set_ne {v : List Int} {i k : Nat} {n : Int} (h : k ≠ i) : at_ (v.set k n) i = at_ v i := by
 unfold at_
 rw [List.getElem?_set_ne h]
theorem at_up {v : List Int} (hv : v.length = 65) (x : V) (i : Nat) : at_ (up v x) i = if Right x ∧ x.by_.toNat = i then max (at_ v i) x.n else at_ v i := by
 by_cases hx : Right x
 ·have hr := hx
  unfold Right at hr
  by_cases hi : x.by_.toNat = i
  ·rw [if_pos ⟨hx, hi⟩]
   subst hi
   by_cases hn : at_ v x.by_.toNat < x.n
   ·rw [up_yes ⟨hx, hn⟩, at_set_self hv (by omega) (by omega)]
    omega
   ·rw [up_no (fun h => hn h.2)]
    omega
  ·rw [if_neg (fun h => hi h.2)]
   by_cases hn : at_ v x.by_.toNat < x.n
   ·rw [up_yes ⟨hx, hn⟩, at_set_ne hi]
   ·rw [up_no (fun h => hn h.2)]
 ·rw [up_no (fun h => hx h.1), if_neg (fun h => hx h.1)]
theorem up_plain {v : List Int} (h : Plain v) (x : V) : Plain (up v x) := by
 refine ⟨by rw [up_len, h.1], fun i hi => ?_⟩
 rw [at_up h.1]
 unfold up
 by_cases hx : Right x ∧ at_ v x.by_.toNat < x.n
 ·rw [if_pos hx]
  by_cases e : x.by_.toNat = i
  ·subst e
   rw [if_pos ⟨hx.1, rfl⟩, List.getElem?_set_self (by rw [h.1]; omega)]
   congr 1
   omega
  ·rw [if_neg (fun k => e k.2), List.getElem?_set_ne e, h.2 i hi]
 ·rw [if_neg hx, h.2 i hi]
  congr 1
  by_cases e : Right x ∧ x.by_.toNat = i
  ·rw [if_pos e]
   obtain ⟨e1, rfl⟩ := e
   have : ¬ at_ v x.by_.toNat < x.n := fun k => hx ⟨e1, k⟩
   omega
  ·rw [if_neg e]
theorem add_plain (v : List Int) (x : V) : Plain (add v x) := up_plain (clean_plain v) x
theorem zero_plain : Plain (List.replicate 65 0) := by
 refine ⟨List.length_replicate, fun i hi => ?_⟩
 have e : (List.replicate 65 (0 : Int))[i]? = some 0 := by rw [List.getElem?_replicate, if_pos hi]
 rw [e]
 unfold at_
 rw [e]
 split <;> rfl
theorem fold_plain : ∀ (l : List V) {v : List Int}, Plain v → Plain (l.foldl up v)
 | [], v, h => h
 | x :: l, v, h => fold_plain l (up_plain h x)
theorem ofl_plain (l : List V) : Plain (ofl l) := fold_plain l zero_plain
theorem ofl_take (l : List V) (i : Nat) (x : V) (hx : l[i]? = some x) : ofl (l.take (i + 1)) = up (ofl (l.take i)) x := by
 obtain ⟨hl, he⟩ := List.getElem?_eq_some_iff.1 hx
 unfold ofl
 rw [List.take_succ_eq_append_getElem hl, he, List.foldl_append]
 rfl
theorem fold_at (i : Nat) : ∀ (l : List V) {v : List Int}, Plain v → ∀ m, at_ (l.foldl up v) i ≤ m ↔ at_ v i ≤ m ∧ ∀ x ∈ l, Right x → x.by_.toNat = i → x.n ≤ m
 | [], v, h, m => by simp
 | y :: l, v, h, m => by
  rw [List.foldl_cons, fold_at i l (up_plain h y) m, at_up h.1]
  constructor
  ·rintro ⟨h1, h2⟩
   by_cases hy : Right y ∧ y.by_.toNat = i
   ·rw [if_pos hy] at h1
    refine ⟨by omega, fun x hx hr he => ?_⟩
    rcases List.mem_cons.1 hx with rfl | hx
    ·omega
    ·exact h2 x hx hr he
   ·rw [if_neg hy] at h1
    refine ⟨h1, fun x hx hr he => ?_⟩
    rcases List.mem_cons.1 hx with rfl | hx
    ·exact absurd ⟨hr, he⟩ hy
    ·exact h2 x hx hr he
  ·rintro ⟨h1, h2⟩
   refine ⟨?_, fun x hx => h2 x (List.mem_cons_of_mem _ hx)⟩
   by_cases hy : Right y ∧ y.by_.toNat = i
   ·rw [if_pos hy]
    have := h2 y (by simp) hy.1 hy.2
    omega
   ·rw [if_neg hy]; exact h1
theorem ends_mem (v : List Int) (x : V) : x ∈ ends v ↔ ∃ i, i < 65 ∧ 0 < at_ v i ∧ x = ⟨(i : Int), at_ v i⟩ := by
 unfold ends
 rw [List.mem_map]
 constructor
 ·rintro ⟨i, hi, rfl⟩
  obtain ⟨h1, h2⟩ := List.mem_filter.1 hi
  exact ⟨i, List.mem_range.1 h1, by simpa using h2, rfl⟩
 ·rintro ⟨i, h1, h2, rfl⟩
  exact ⟨i, List.mem_filter.2 ⟨List.mem_range.2 h1, by simpa using h2⟩, rfl⟩
theorem ofl_ends (v : List Int) : ofl (ends v) = clean v := by
 refine plain_ext (ofl_plain _) (clean_plain v) (fun i => ?_)
 rw [at_clean]
 have hz : at_ (List.replicate 65 0) i = 0 := by
  unfold at_
  rw [List.getElem?_replicate]
  split
  ·split <;> rfl
  ·rfl
 have h0 := at_nonneg v i
 apply Int.le_antisymm
 ·unfold ofl
  rw [fold_at i _ zero_plain, hz]
  refine ⟨h0, fun x hx hr he => ?_⟩
  obtain ⟨k, hk, h1, rfl⟩ := (ends_mem v x).1 hx
  have : k = i := by simpa using he
  subst this
  exact Int.le_refl _
 ·by_cases hp : 0 < at_ v i
  ·have hi : 1 ≤ i ∧ i ≤ 64 := Classical.byContradiction (fun h => by rw [at_zero v i h] at hp; omega)
   have := (fold_at i (ends v) zero_plain (at_ (ofl (ends v)) i)).1 (Int.le_refl _)
   exact this.2 ⟨(i : Int), at_ v i⟩ ((ends_mem v _).2 ⟨i, by omega, hp, rfl⟩) ⟨by simp; omega, by simp; omega, by simp; omega⟩ (by simp)
  ·have := at_nonneg (ofl (ends v)) i
   omega
theorem covers_refl (a : List Int) : Covers a a := fun _ _ => Int.le_refl _
theorem covers_trans {a b c : List Int} (h : Covers a b) (k : Covers b c) : Covers a c := fun i hi => Int.le_trans (k i hi) (h i hi)
theorem at_far (v : List Int) (i : Nat) (h : ¬ i < 65) : at_ v i = 0 := at_zero v i (by omega)
theorem covers_anti (a b : List Int) : (Covers a b ∧ Covers b a) ↔ clean a = clean b := by
 constructor
 ·rintro ⟨h, k⟩
  refine plain_ext (clean_plain a) (clean_plain b) (fun i => ?_)
  rw [at_clean, at_clean]
  by_cases hi : i < 65
  ·exact Int.le_antisymm (k i hi) (h i hi)
  ·rw [at_far a i hi, at_far b i hi]
 ·intro h
  have e : ∀ i, at_ a i = at_ b i := fun i => by rw [← at_clean a, h, at_clean]
  exact ⟨fun i _ => by rw [e]; exact Int.le_refl _, fun i _ => by rw [e]; exact Int.le_refl _⟩
end Go.Proofs.YtpafpegcodempaaGreat.Vec
namespace Go.Proofs.YtpafpegcodempaaGreat.Vec
open Ver (V Right)
def part (f : Nat → Int) (v : List Int) (k : Nat) : List Int := (make f).take k ++ v.drop k
theorem part_zero (f : Nat → Int) (v : List Int) : part f v 0 = v := by unfold part; rw [List.take_zero, List.drop_zero]; rfl
theorem part_all (f : Nat → Int) {v : List Int} (h : v.length = 65) : part f v 65 = make f := by
 unfold part
 rw [List.take_of_length_le (by rw [make_len]; omega), List.drop_of_length_le (by omega), List.append_nil]
theorem part_len (f : Nat → Int) {v : List Int} (h : v.length = 65) {k : Nat} (hk : k ≤ 65) : (part f v k).length = 65 := by
 unfold part
 rw [List.length_append, List.length_take, List.length_drop, make_len, h]
 omega
theorem part_lt (f : Nat → Int) (v : List Int) {k i : Nat} (hk : k ≤ 65) (hi : i < k) : (part f v k)[i]? = some (f i) := by
 unfold part
 rw [List.getElem?_append_left (by rw [List.length_take, make_len]; omega), List.getElem?_take, if_pos hi, make_at f i (by omega)]
theorem part_ge (f : Nat → Int) (v : List Int) {k i : Nat} (hk : k ≤ 65) (hi : k ≤ i) : (part f v k)[i]? = v[i]? := by
 unfold part
 rw [List.getElem?_append_right (by rw [List.length_take, make_len]; omega), List.length_take, make_len, List.getElem?_drop]
 congr 1
 omega
theorem part_set (f : Nat → Int) {v : List Int} (h : v.length = 65) {k : Nat} (hk : k < 65) : (part f v k).set k (f k) = part f v (k + 1) := by
 apply List.ext_getElem?
 intro i
 by_cases hi : i = k
 ·subst hi
  rw [List.getElem?_set_self (by rw [part_len f h (by omega)]; omega), part_lt f v (by omega) (by omega)]
 ·rw [List.getElem?_set_ne (fun e => hi e.symm)]
  by_cases h2 : i < k
  ·rw [part_lt f v (by omega) h2, part_lt f v (by omega) (by omega)]
  ·rw [part_ge f v (by omega) (by omega), part_ge f v (by omega) (by omega)]
theorem make_ext {f g : Nat → Int} (h : ∀ i, i < 65 → f i = g i) : make f = make g := by
 unfold make
 exact List.map_congr_left (fun i hi => h i (List.mem_range.1 hi))
theorem clean_set (v : List Int) : (make (fun i => max ((v[i]?).getD 0) 0)).set 0 0 = clean v := by
 apply List.ext_getElem?
 intro i
 by_cases h65 : i < 65
 ·rw [show clean v = make (at_ v) from rfl, make_at _ i h65]
  by_cases hi : i = 0
  ·subst hi
   rw [List.getElem?_set_self (by rw [make_len]; omega), at_zero v 0 (by omega)]
  ·rw [List.getElem?_set_ne (fun e => hi e.symm), make_at _ i h65]
   unfold at_
   rw [if_pos (by omega)]
 ·rw [List.getElem?_eq_none (by rw [List.length_set, make_len]; omega), List.getElem?_eq_none (by rw [(clean_plain v).1]; omega)]
theorem clean_get (v : List Int) {i : Nat} (h : i < 65) : (clean v)[i]? = some (at_ v i) := make_at _ i h
theorem clean_len (v : List Int) : (clean v).length = 65 := make_len _
theorem up_max {v : List Int} (h : Plain v) {x : V} (hx : Right x) {n : Int} (hn : v[x.by_.toNat]? = some n) : v.set x.by_.toNat (max n x.n) = up v x := by
 have hr := hx
 unfold Right at hr
 have e : n = at_ v x.by_.toNat := by
  have := h.2 x.by_.toNat (by omega)
  rw [hn] at this
  injection this
 by_cases hl : at_ v x.by_.toNat < x.n
 ·rw [up_yes ⟨hx, hl⟩, show max n x.n = x.n by omega]
 ·rw [up_no (fun k => hl k.2), show max n x.n = n by omega]
  apply List.ext_getElem?
  intro i
  by_cases hi : i = x.by_.toNat
  ·subst hi
   rw [List.getElem?_set_self (by rw [h.1]; omega), hn]
  ·rw [List.getElem?_set_ne (fun e => hi e.symm)]
theorem covers_join (a b : List Int) : join a b = clean a ↔ Covers a b := by
 constructor
 ·intro h i hi
  have e : at_ (join a b) i = at_ (clean a) i := by rw [h]
  rw [at_join, at_clean] at e
  omega
 ·intro h
  refine plain_ext (join_plain a b) (clean_plain a) (fun i => ?_)
  rw [at_join, at_clean]
  by_cases hi : i < 65
  ·have := h i hi
   omega
  ·rw [at_far a i hi, at_far b i hi]; rfl
def endsK (v : List Int) (k : Nat) : List V := ((List.range k).filter fun i => decide (0 < at_ v i)).map fun (i : Nat) => ⟨(i : Int), at_ v i⟩
theorem endsK_zero (v : List Int) : endsK v 0 = [] := rfl
theorem endsK_all (v : List Int) : endsK v 65 = ends v := rfl
theorem endsK_more (v : List Int) (k : Nat) (h : 0 < at_ v k) : endsK v (k + 1) = endsK v k ++ [⟨(k : Int), at_ v k⟩] := by
 unfold endsK
 rw [List.range_succ, List.filter_append, List.map_append]
 congr 1
 simp [h]
theorem endsK_same (v : List Int) (k : Nat) (h : ¬ 0 < at_ v k) : endsK v (k + 1) = endsK v k := by
 unfold endsK
 rw [List.range_succ, List.filter_append, List.map_append]
 simp [h]
theorem endsK_one (v : List Int) : endsK v 1 = [] := by
 rw [endsK_same v 0 (by rw [at_zero v 0 (by omega)]; omega), endsK_zero]
theorem endsK_len (v : List Int) (k : Nat) : (endsK v k).length ≤ k := by
 unfold endsK
 rw [List.length_map]
 exact Nat.le_trans (List.length_filter_le ..) (by rw [List.length_range]; exact Nat.le_refl _)
theorem num_nat (v : List Int) {k : Nat} (hk : k < 65) : num v (k : Int) = at_ v k := by
 unfold num
 by_cases h : 1 ≤ (k : Int) ∧ (k : Int) ≤ 64
 ·rw [if_pos h, Int.toNat_natCast]
 ·rw [if_neg h, at_zero v k (by omega)]
instance (v : List Int) : Decidable (Plain v) := inferInstanceAs (Decidable (_ ∧ _))
theorem at_le {v : List Int} (h : ∀ n ∈ v, n ≤ 9223372036854775807) (i : Nat) : at_ v i ≤ 9223372036854775807 := by
 unfold at_
 split
 ·cases hn : v[i]? with
  | none => show max (0 : Int) 0 ≤ _; omega
  | some n =>
   have := h n (List.mem_of_getElem? hn)
   show max n 0 ≤ _
   omega
 ·omega
end Go.Proofs.YtpafpegcodempaaGreat.Vec
