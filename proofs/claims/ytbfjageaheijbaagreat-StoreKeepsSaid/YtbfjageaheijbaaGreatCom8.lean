/- Slices whose elements have several cells each (structs): what they read as, what is appended to the call's own, pieces of them. No program is spoken of. -/
import Derived.Test.YtbfjageaheijbaaGreatCom7
import Derived.Test.YtbfjageaheijbaaGreatCom3
import Derived.OwnWalk
import Derived.Deep.AppendLies
import Derived.Tactics
import Derived.Deep.Slices
import Derived.Sort.Walk0
namespace Go.Proofs.YtbfjageaheijbaaGreat
open Go.RowKit

/-- The slice value v reads as l, each x as the k cells f x, out of blocks of F. -/
def Rws {α : Type} (k : Nat) (f : α → List Value) (w : World) (F : Nat → Prop) (v : Value) (l : List α) : Prop :=
  ∃ A cap, v = .slice A l.length cap ∧ l.length ≤ cap ∧ (0 < l.length → ∃ b o, A = some ⟨b, o, none⟩ ∧ F b ∧ b < w.heap.size ∧ ∀ i x, l[i]? = some x → ∀ j u, (f x)[j]? = some u → w.cell? ⟨b, o + i * k + j, none⟩ = some u)

section
variable {α : Type} {k : Nat} {f : α → List Value} {w w' : World} {F G : Nat → Prop} {v : Value} {l : List α}

set_option maxRecDepth 100000 in
theorem Rws.none (w : World) (F : Nat → Prop) (c : Nat) : Rws k f w F (.slice none 0 c) [] := ⟨Option.none, c, rfl, Nat.zero_le _, fun h => absurd h (by simp)⟩
set_option maxRecDepth 100000 in
theorem Rws.empty (w : World) (F : Nat → Prop) (A : Option Addr) (c : Nat) : Rws k f w F (.slice A 0 c) [] := ⟨A, c, rfl, Nat.zero_le _, fun h => absurd h (by simp)⟩

set_option maxRecDepth 100000 in
theorem Rws.kept (h : Rws k f w F v l) (hk : Kept G w w') (hd : ∀ i, F i → ¬ G i) : Rws k f w' F v l := by
  obtain ⟨A, cap, h1, h2, h3⟩ := h
  refine ⟨A, cap, h1, h2, fun hp => ?_⟩
  obtain ⟨b, o, e, hb, hl, hc⟩ := h3 hp
  exact ⟨b, o, e, hb, Nat.lt_of_lt_of_le hl hk.size, fun i x hx j u hu => (hk.cell (p := ⟨b, _, Option.none⟩) hl (hd b hb)).trans (hc i x hx j u hu)⟩

set_option maxRecDepth 100000 in
theorem Rws.below (h : Rws k f w F v l) (hk : Below w.heap.size w w') : Rws k f w' F v l := h.kept (Kept.ofBelow hk (fun _ => False)) (fun _ _ h => h)

set_option maxRecDepth 100000 in
theorem Rws.mono (h : Rws k f w F v l) (hF : ∀ i, F i → G i) : Rws k f w G v l := by
  obtain ⟨A, cap, h1, h2, h3⟩ := h
  refine ⟨A, cap, h1, h2, fun hp => ?_⟩
  obtain ⟨b, o, e, hb, r⟩ := h3 hp
  exact ⟨b, o, e, hF b hb, r⟩

set_option maxRecDepth 100000 in
theorem Rws.lt (h : Rws k f w F v l) : Rws k f w (fun i => F i ∧ i < w.heap.size) v l := by
  obtain ⟨A, cap, h1, h2, h3⟩ := h
  refine ⟨A, cap, h1, h2, fun hp => ?_⟩
  obtain ⟨b, o, e, hb, r⟩ := h3 hp
  exact ⟨b, o, e, ⟨hb, r.1⟩, r⟩

set_option maxRecDepth 100000 in
/-- Rows, one behind the other: which cell is which. -/
theorem rows_at : ∀ (l : List α), (∀ x ∈ l, (f x).length = k) → ∀ (i : Nat) (x : α), l[i]? = some x → ∀ (j : Nat) (u : Value), (f x)[j]? = some u → (l.flatMap f)[i * k + j]? = some u
  | [], _, i, x, hx, _, _, _ => by cases hx
  | y :: l, hk, 0, x, hx, j, u, hu => by
    simp at hx
    subst hx
    rw [List.flatMap_cons, Nat.zero_mul, Nat.zero_add, List.getElem?_append_left (by obtain ⟨h, _⟩ := List.getElem?_eq_some_iff.1 hu; exact h)]
    exact hu
  | y :: l, hk, i + 1, x, hx, j, u, hu => by
    have hy := hk y (by simp)
    rw [List.flatMap_cons, List.getElem?_append_right (by rw [hy, Nat.add_one_mul]; omega), hy]
    have e : (i + 1) * k + j - k = i * k + j := by rw [Nat.add_one_mul]; omega
    rw [e]
    exact rows_at l (fun z hz => hk z (List.mem_cons_of_mem _ hz)) i x (by simpa using hx) j u hu

set_option maxRecDepth 100000 in
theorem rows_of : ∀ (l : List α), (∀ x ∈ l, (f x).length = k) → ∀ (m : Nat) (u : Value), (l.flatMap f)[m]? = some u → ∃ i x j, l[i]? = some x ∧ (f x)[j]? = some u ∧ m = i * k + j
  | [], _, m, u, h => by simp at h
  | y :: l, hk, m, u, h => by
    have hy := hk y (by simp)
    rw [List.flatMap_cons] at h
    by_cases hm : m < k
    · rw [List.getElem?_append_left (by omega)] at h
      exact ⟨0, y, m, rfl, h, by omega⟩
    · rw [List.getElem?_append_right (by omega), hy] at h
      obtain ⟨i, x, j, h1, h2, h3⟩ := rows_of l (fun z hz => hk z (List.mem_cons_of_mem _ hz)) _ u h
      exact ⟨i + 1, x, j, by simpa using h1, h2, by rw [Nat.add_one_mul]; omega⟩

set_option maxRecDepth 100000 in
theorem rows_len : ∀ (l : List α), (∀ x ∈ l, (f x).length = k) → (l.flatMap f).length = l.length * k
  | [], _ => by simp
  | y :: l, hk => by
    rw [List.flatMap_cons, List.length_append, rows_len l (fun z hz => hk z (List.mem_cons_of_mem _ hz)), hk y (by simp), List.length_cons, Nat.add_one_mul]
    omega

set_option maxRecDepth 100000 in
theorem Rws.ofOwn {base t n : Nat} (h : w.ownsRow base t k v n (l.flatMap f)) (hl : l.length = n) (hk : ∀ x ∈ l, (f x).length = k) (hF : ∀ b, v.ownBlock = some b → base ≤ b → b < w.heap.size → F b) : Rws k f w F v l := by
  subst hl
  rcases h.2 with ⟨hv, h0⟩ | ⟨g, cap, cur, hv, hb, hg, hc, hm, hs, ht⟩
  · rw [hv]
    have : l = [] := List.eq_nil_of_length_eq_zero h0
    rw [this]
    exact Rws.none _ _ _
  · refine ⟨some ⟨g, 0, Option.none⟩, cap, hv, hc, fun _ => ⟨g, 0, rfl, hF g (by rw [hv]; rfl) hb (lt_of_block hg), lt_of_block hg, fun i x hx j u hu => ?_⟩⟩
    have hr := rows_at l hk i x hx j u hu
    rw [cell_of_row w g _ cur t (0, 0) hg, Nat.zero_add]
    rw [← ht, List.getElem?_take] at hr
    split at hr
    · rw [Array.getElem?_toList] at hr; exact hr
    · cases hr

set_option maxRecDepth 100000 in
/-- A piece from the front, a piece to the end. -/
theorem Rws.take (h : Rws k f w F v l) {A : Option Addr} {cap : Nat} (hv : v = .slice A l.length cap) (i : Nat) (hi : i ≤ l.length) (c : Nat) (hc : i ≤ c) : Rws k f w F (.slice A i c) (l.take i) := by
  obtain ⟨B, cap', h1, h2, h3⟩ := h
  rw [h1] at hv
  injection hv with e1 e2 e3
  subst e1
  have hl : (l.take i).length = i := by rw [List.length_take]; omega
  refine ⟨B, c, by rw [hl], by rw [hl]; exact hc, fun hp => ?_⟩
  rw [hl] at hp
  obtain ⟨b, o, e, hb, hlt, hcl⟩ := h3 (by omega)
  exact ⟨b, o, e, hb, hlt, fun m x hx => hcl m x (by rw [List.getElem?_take] at hx; split at hx; exact hx; cases hx)⟩

set_option maxRecDepth 100000 in
theorem Rws.drop (h : Rws k f w F v l) {b o cap : Nat} (hv : v = .slice (some ⟨b, o, Option.none⟩) l.length cap) (i : Nat) (hi : i ≤ l.length) (c : Nat) (hc : l.length - i ≤ c) : Rws k f w F (.slice (some ⟨b, o + i * k, Option.none⟩) (l.length - i) c) (l.drop i) := by
  obtain ⟨B, cap', h1, h2, h3⟩ := h
  rw [h1] at hv
  injection hv with e1 e2 e3
  subst e1
  have hl : (l.drop i).length = l.length - i := List.length_drop
  refine ⟨_, c, by rw [hl], by rw [hl]; exact hc, fun hp => ?_⟩
  rw [hl] at hp
  obtain ⟨b', o', e, hb, hlt, hcl⟩ := h3 (by omega)
  injection e with e
  injection e with e1 e2
  subst e1 e2
  refine ⟨b, o + i * k, rfl, hb, hlt, fun m x hx j u hu => ?_⟩
  rw [List.getElem?_drop] at hx
  have := hcl (i + m) x hx j u hu
  rw [show o + (i + m) * k + j = o + i * k + m * k + j by rw [Nat.add_mul]; omega] at this
  exact this
end

/-! ### What is appended to the call's own -/
section
variable {P : Program} {α : Type} {k : Nat} {f : α → List Value}

set_option maxRecDepth 100000 in
theorem join_nothing {w : World} (base : Nat) (t ty e : TypeId) (i : TypeInfo) (size c : Nat) (ht : P.underlying t = some (.slice e)) (hi : P.info? e = some i) (v : Value) (n : Nat) (xs : List Value) (hown : w.ownsRow base e size v n xs) :
    (Builtin.append_ #[t, t] ty #[v, .slice none 0 c]).run P w = .ok v w := by
  rcases hown.2 with ⟨rfl, rfl⟩ | ⟨g, cap, cur, rfl, _, _, hnc, _⟩
  · simp [Builtin.append_, run_underlying ht, sizeOf, typeInfo, hi, Builtin.lenOf, Builtin.firstCells]
  · simp [Builtin.append_, run_underlying ht, sizeOf, typeInfo, hi, Builtin.lenOf, Builtin.firstCells, hnc, storeCells]

set_option maxRecDepth 100000 in
/-- The call's own, and behind it what another slice reads as. -/
theorem join_rows {w : World} (base : Nat) (t ty e : TypeId) (i : TypeInfo) (z : Value) (bytes : Nat) (ht : P.underlying t = some (.slice e)) (hi : P.info? e = some i) (hz : i.zero = some z) (hsize : i.size = k) (hby : i.bytes = bytes) (hzs : z.cells.size = k) (hsz : 0 < k)
    {v xv : Value} {n : Nat} {xs : List Value} {F : Nat → Prop} {l : List α} (hown : w.ownsRow base e k v n xs) (hx : Rws k f w F xv l) (hk : ∀ x ∈ l, (f x).length = k) (h1 : ∀ x ∈ l, ∀ u ∈ f x, u.oneCell' = true)
    (h63 : n + l.length ≤ maxLen) (hbytes : (n + l.length) * bytes ≤ 140737488355328) (hbase : base ≤ w.heap.size) :
    ∃ v' w', (Builtin.append_ #[t, t] ty #[v, xv]).run P w = .ok v' w' ∧ w'.ownsRow base e k v' (n + l.length) (xs ++ l.flatMap f) ∧ w.grownBy w' v.ownBlock := by
  obtain ⟨A, c, rfl, hc, hat⟩ := hx
  have hone : ∀ u ∈ l.flatMap f, u.oneCell' = true := by
    intro u hu
    obtain ⟨x, hx, hu⟩ := List.mem_flatMap.1 hu
    exact h1 x hx u hu
  have hgo : ∀ ad : Addr, A = some ad → (∀ j u, (l.flatMap f)[j]? = some u → w.cell? (ad.add j) = some u) → ∃ v' w', (Builtin.append_ #[t, t] ty #[v, .slice A l.length c]).run P w = .ok v' w' ∧ w'.ownsRow base e k v' (n + l.length) (xs ++ l.flatMap f) ∧ w.grownBy w' v.ownBlock := by
    rintro ad rfl hnews
    obtain ⟨v', w', r1, r2, r3, -⟩ := run_append_own w base t ty e i z k bytes ht hi hz hsize hby hzs hsz v n xs hown ad l.length c (l.flatMap f) (rows_len l hk) hnews hone h63 hbytes hbase
    exact ⟨v', w', r1, r2, r3⟩
  by_cases h0 : 0 < l.length
  · obtain ⟨b, o, rfl, -, hbl, hcell⟩ := hat h0
    refine hgo _ rfl (fun j u hu => ?_)
    obtain ⟨m, x, r, e1, e2, rfl⟩ := rows_of l hk j u hu
    rw [Go.WideShapes.add_plain, ← Nat.add_assoc]
    exact hcell m x e1 r u e2
  · have hl : l = [] := List.eq_nil_of_length_eq_zero (by omega)
    subst hl
    cases A with
    | none => exact ⟨v, w, join_nothing base t ty e i k c ht hi v n xs hown, by simpa using hown, rfl, rfl, rfl, Nat.le_refl _, fun _ _ _ => rfl⟩
    | some ad => exact hgo ad rfl (fun j u hu => by simp at hu)

set_option maxRecDepth 100000 in
theorem wp_join {ops : Array Oper} {rest : List Oper} {o : Oper} {a : Act} {w : World} {Q : Exit → Act → World → Prop} (hgd : o.guard = none) (s x : Operand) (t : TypeId)
    (ho : o.op = .call { callee := .builtin .append, args := #[s, x], argTypes := #[t, t] }) (base : Nat) (e : TypeId) (i : TypeInfo) (z : Value) (bytes : Nat) (ht : P.underlying t = some (.slice e)) (hi : P.info? e = some i) (hz : i.zero = some z)
    (hsize : i.size = k) (hby : i.bytes = bytes) (hzs : z.cells.size = k) (hsz : 0 < k) {v xv : Value} {n : Nat} {xs : List Value} {F : Nat → Prop} {l : List α} (hs : a.eval s = v) (hx : a.eval x = xv)
    (hown : w.ownsRow base e k v n xs) (hr : Rws k f w F xv l) (hk : ∀ x ∈ l, (f x).length = k) (h1 : ∀ x ∈ l, ∀ u ∈ f x, u.oneCell' = true) (h63 : n + l.length ≤ maxLen) (hbytes : (n + l.length) * bytes ≤ 140737488355328) (hbase : base ≤ w.heap.size)
    (h : ∀ v' w', w'.ownsRow base e k v' (n + l.length) (xs ++ l.flatMap f) → w.grownBy w' v.ownBlock → wpList P ops Q rest (a.put o.dst v') w') : wpList P ops Q (o :: rest) a w :=
  wpList_plain hgd fun _ hK => by
    obtain ⟨v', w', r1, r2, r3⟩ := join_rows (P := P) base t o.type e i z bytes ht hi hz hsize hby hzs hsz hown hr hk h1 h63 hbytes hbase
    unfold Oper.wp execOp
    simp only [ho, resolve, invoke, builtin, Sem.run_bind, Sem.run_pure, Result.andThen_ok, List.map_toArray, List.map_cons, List.map_nil, hs, hx, r1]
    exact hK _ _ (h v' w' r2 r3)

set_option maxRecDepth 100000 in
theorem step_joins {ops : Array Oper} {o : Oper} {a : Act} {w : World} {K : Act → World → Prop} {Q : Exit → Act → World → Prop} {E : Prop} (hgd : o.guard = none) (s x : Operand) (t : TypeId)
    (ho : o.op = .call { callee := .builtin .append, args := #[s, x], argTypes := #[t, t] }) (base : Nat) (e : TypeId) (i : TypeInfo) (z : Value) (bytes : Nat) (ht : P.underlying t = some (.slice e)) (hi : P.info? e = some i) (hz : i.zero = some z)
    (hsize : i.size = k) (hby : i.bytes = bytes) (hzs : z.cells.size = k) (hsz : 0 < k) {v xv : Value} {n : Nat} {xs : List Value} {F : Nat → Prop} {l : List α} (hs : a.eval s = v) (hx : a.eval x = xv)
    (hown : w.ownsRow base e k v n xs) (hr : Rws k f w F xv l) (hk : ∀ x ∈ l, (f x).length = k) (h1 : ∀ x ∈ l, ∀ u ∈ f x, u.oneCell' = true) (h63 : n + l.length ≤ maxLen) (hbytes : (n + l.length) * bytes ≤ 140737488355328) (hbase : base ≤ w.heap.size)
    (h : ∀ v' w', w'.ownsRow base e k v' (n + l.length) (xs ++ l.flatMap f) → w.grownBy w' v.ownBlock → K (a.put o.dst v') w') :
    if Region.wanted o (yielded ops a.tmps) = true then Oper.wp P o a w K Q else E := by
  rw [if_pos (by simp [Region.wanted, hgd])]
  obtain ⟨v', w', r1, r2, r3⟩ := join_rows (P := P) base t o.type e i z bytes ht hi hz hsize hby hzs hsz hown hr hk h1 h63 hbytes hbase
  unfold Oper.wp execOp
  simp only [ho, resolve, invoke, builtin, Sem.run_bind, Sem.run_pure, Result.andThen_ok, List.map_toArray, List.map_cons, List.map_nil, hs, hx, r1]
  exact h v' w' r2 r3
end
end Go.Proofs.YtbfjageaheijbaaGreat
/- The document's own answers of layer 6 on lists of pairs: Drop, Put. -/
namespace Go.Proofs.YtbfjageaheijbaaGreat
open Go.RowKit

def prV (p : Sto.Pr) : List Value := [.string (mk p.1), .string (mk p.2)]
def chV (c : Sto.Ch) : List Value := [.string (mk c.key), .string (mk c.val), .bool c.gone]

/-- Pairs in memory; changes in memory. -/
abbrev Pairs (w : World) (F : Nat → Prop) (v : Value) (l : List Sto.Pr) : Prop := Rws 2 prV w F v l
abbrev Changes (w : World) (F : Nat → Prop) (v : Value) (l : List Sto.Ch) : Prop := Rws 3 chV w F v l

set_option maxRecDepth 100000 in
theorem pr_len (p : Sto.Pr) : (prV p).length = 2 := rfl
set_option maxRecDepth 100000 in
theorem pr_one (p : Sto.Pr) : ∀ u ∈ prV p, u.oneCell' = true := by
  intro u hu
  unfold prV at hu
  rcases List.mem_cons.1 hu with e | e
  · rw [e]; rfl
  · rw [List.mem_singleton.1 e]; rfl

set_option maxRecDepth 100000 in
theorem pairInfo : (Tryz.prog.info? 50).map (fun i => (i.zero, i.size, i.bytes)) = some (some (.agg #[.string ⟨#[]⟩, .string ⟨#[]⟩]), 2, 32) := by kernel_rfl

/-- The call's own slice holds these pairs. -/
def PairsOwn (w : World) (out : List Sto.Pr) (v : Value) (wr : World) : Prop := wr.ownsRow w.heap.size 50 2 v out.length (out.flatMap prV) ∧ Below w.heap.size w wr

set_option maxRecDepth 100000 in
theorem PairsOwn.start (w : World) : PairsOwn w [] (.slice none 0 0) w := ⟨World.ownsRow_nil _ _ _ _, Below.refl _ _⟩

set_option maxRecDepth 100000 in
theorem PairsOwn.pairs {w w' : World} {out : List Sto.Pr} {v : Value} (h : PairsOwn w out v w') : Pairs w' (NewIn w w') v out := Rws.ofOwn h.1 rfl (fun x _ => pr_len x) (fun _ _ h1 h2 => ⟨h1, h2⟩)

set_option maxRecDepth 100000 in
theorem PairsOwn.more {w wr w2 : World} {out : List Sto.Pr} {v v' : Value} {o : Obj} {x : Sto.Pr} (h : PairsOwn w out v wr) (hown : w2.ownsRow w.heap.size 50 2 v' (out.length + 1) (out.flatMap prV ++ [.string (mk x.1), .string (mk x.2)]))
    (hg : (wr.alloc o).grownBy w2 v.ownBlock) : PairsOwn w (out ++ [x]) v' w2 := by
  obtain ⟨h1, h2⟩ := h
  refine ⟨?_, (h2.alloc h2.size o).grown hg (by have := h2.size; simp; omega) (fun k hk => (h1.lt k hk).1)⟩
  rw [List.length_append, List.flatMap_append]
  simpa [prV] using hown

set_option maxRecDepth 100000 in
theorem Pairs.at {w : World} {F : Nat → Prop} {b o : Nat} {n cap : Nat} {l : List Sto.Pr} (h : Pairs w F (.slice (some ⟨b, o, none⟩) n cap) l) {i : Nat} {x : Sto.Pr} (hx : l[i]? = some x) :
    w.cell? ⟨b, o + i * 2, none⟩ = some (.string (mk x.1)) ∧ w.cell? ⟨b, o + i * 2 + 1, none⟩ = some (.string (mk x.2)) := by
  obtain ⟨A, c, e, -, hat⟩ := h
  injection e with e1 e2 e3
  obtain ⟨b', o', e, -, -, hc⟩ := hat (by obtain ⟨hl, _⟩ := List.getElem?_eq_some_iff.1 hx; omega)
  rw [e] at e1
  injection e1 with e1
  injection e1 with e1 e2
  subst e1 e2
  exact ⟨hc i x hx 0 _ rfl, hc i x hx 1 _ rfl⟩

set_option maxRecDepth 100000 in
theorem Rws.shape {α : Type} {k : Nat} {f : α → List Value} {w : World} {F : Nat → Prop} {v : Value} {l : List α} (h : Rws k f w F v l) (h0 : 0 < l.length) : ∃ b o cap, v = .slice (some ⟨b, o, Option.none⟩) l.length cap ∧ l.length ≤ cap ∧ F b ∧ b < w.heap.size := by
  obtain ⟨A, c, e, hc, hat⟩ := h
  obtain ⟨b, o, rfl, hb, hl, -⟩ := hat h0
  exact ⟨b, o, c, e, hc, hb, hl⟩

set_option maxRecDepth 100000 in
theorem Rws.slice {α : Type} {k : Nat} {f : α → List Value} {w : World} {F : Nat → Prop} {v : Value} {l : List α} (h : Rws k f w F v l) : ∃ A cap, v = .slice A l.length cap ∧ l.length ≤ cap := by
  obtain ⟨A, c, e, hc, hat⟩ := h
  exact ⟨A, c, e, hc⟩

set_option maxRecDepth 100000 in
theorem drop_take (l : List Sto.Pr) (k : Sto.Key) (i : Nat) (x : Sto.Pr) (hx : l[i]? = some x) : Sto.drop (l.take (i + 1)) k = Sto.drop (l.take i) k ++ (if x.1 ≠ k then [x] else []) := by
  obtain ⟨hl, he⟩ := List.getElem?_eq_some_iff.1 hx
  rw [List.take_succ_eq_append_getElem hl, he]
  unfold Sto.drop
  rw [List.filter_append]
  congr 1
  by_cases h : x.1 ≠ k
  · rw [if_pos h, List.filter_cons, if_pos (decide_eq_true h)]; rfl
  · rw [if_neg h, List.filter_cons, if_neg (by simpa using h)]; rfl

set_option maxRecDepth 100000 in
set_option maxHeartbeats 1600000 in
theorem ref_drop {w : World} {F : Nat → Prop} {v : Value} {l : List Sto.Pr} (h : Pairs w F v l) (hl : l.length ≤ 1000000) (k : ByteArray) :
    Calls Tryz.prog 39 #[v, .string k] w fun e w' => ∃ v', e = .returned v' ∧ PairsOwn w (Sto.drop l k.data.toList) v' w' := by
  obtain ⟨i0, hi, hz0, hz1, hz2⟩ := info_parts pairInfo
  obtain ⟨K, rfl⟩ : ∃ K, k = mk K := ⟨_, (mk_of k).symm⟩
  rw [mk_data]
  obtain ⟨A, cap, rfl, hcap⟩ := h.slice
  have H := Lib.hid h
  have hl' : (l.length : Int) ≤ 1000000 := by omega
  clear h
  go_enter Tryz.func39, Tryz.ntmps39
  go_wp2_with fail
  go_loopw [5, 6] (fun o i wr => ∃ n : Nat, n ≤ l.length ∧ i = .int .i64 (n : Int) ∧ PairsOwn w (Sto.drop (l.take n) K) o wr) (fun _ i _ => l.length - (intOf i).toNat)
  case atStart => exact ⟨0, Nat.zero_le _, rfl, PairsOwn.start w⟩
  case round =>
    obtain ⟨n, hn, rfl, hown⟩ := hrel
    by_cases hlt : n < l.length
    · obtain ⟨b, o, cap', e, -, -, hb⟩ := H.out.shape (by omega)
      injection e with e1 e2 e3
      subst e1 e3
      obtain ⟨x, hx⟩ : ∃ x, l[n]? = some x := ⟨_, List.getElem?_eq_getElem hlt⟩
      obtain ⟨c0, c1⟩ := Pairs.at (H.out.below (Below.refl _ _)) hx
      have c0 : wr.cell? ⟨b, o + n * 2, none⟩ = some (.string (mk x.1)) := (hown.2.cell (p := ⟨b, o + n * 2, none⟩) hb).trans c0
      have c1 : wr.cell? ⟨b, o + n * 2 + 1, none⟩ = some (.string (mk x.2)) := (hown.2.cell (p := ⟨b, o + n * 2 + 1, none⟩) hb).trans c1
      have hst := drop_take l K n x hx
      have hn0 : (0 : Int) ≤ (n : Int) := by omega
      have hn1 : (n : Int) < (l.length : Int) := by omega
      have hdl : Hid ((Sto.drop (l.take n) K).length ≤ 1000000) := Lib.hid (by have := Sto.drop_len (l.take n) K; rw [List.length_take] at this; omega)
      by_cases hk : x.1 = K
      · have hb1 : ((mk x.1).toList == (mk K).toList) = true := by rw [hk]; exact beq_self_eq_true _
        have hb2 : ((mk x.1).toList != (mk K).toList) = false := by rw [bne, hb1]; rfl
        rw [if_neg (by simpa using hk), List.append_nil] at hst
        have Hst := Lib.hid hst
        have Hown := Lib.hid hown
        clear hx hst hown hk
        generalize mk x.1 = x1 at *
        generalize mk x.2 = x2 at *
        go_wp2_with fail
        refine ⟨⟨n + 1, by omega, rfl, by rw [Hst.out]; exact Hown.out⟩, ?_⟩
        show l.length - ((n : Int) + 1).toNat < l.length - (n : Int).toNat
        omega
      · have hb1 : ((mk x.1).toList == (mk K).toList) = false := by
          rw [beq_eq_false_iff_ne, Lib.toList_data, Lib.toList_data]; exact hk
        have hb2 : ((mk x.1).toList != (mk K).toList) = true := by rw [bne, hb1]; rfl
        rw [if_pos hk] at hst
        have Hst := Lib.hid hst
        have Hown := Lib.hid hown
        have hz := hown.2.size
        have hown1 := hown.1
        clear hx hst hown hk
        generalize hx1 : mk x.1 = x1 at *
        generalize hx2 : mk x.2 = x2 at *
        have hc1 : ∀ {w1 : World} j u, [Value.string x1, Value.string x2][j]? = some u → (w1.alloc (.cells #[.string x1, .string x2] 50)).cell? ((⟨w1.heap.size, 0, none⟩ : Addr).add j) = some u := by
          intro w1 j u hj
          rw [Go.WideShapes.add_plain, (Row.made w1 _ _).at, Nat.zero_add]
          match j, hj with
          | 0, hj => simpa using hj
          | 1, hj => simpa using hj
        go_wp2_with (at_builtin; refine wpList_append_own _ rfl _ _ 32 rfl w.heap.size 50 i0 (.agg #[.string ⟨#[]⟩, .string ⟨#[]⟩]) 2 32 Tryz.underlying32 hi hz0 hz1 hz2 rfl (by decide) _ _ _ rfl (hown1.alloc _) ⟨wr.heap.size, 0, none⟩ 1 1 [.string x1, .string x2] rfl rfl hc1 ?c2 ?c3 ?c4 ?c5 ?_)
        case c2 => exact ⟨rfl, rfl⟩
        case c3 => have := hdl.out; unfold maxLen; omega
        case c4 => have := hdl.out; omega
        case c5 => first | omega | (simp; omega)
        intro v' w2 hown' hgrow' _
        have hnew := Hown.out.more (x := x) (v' := v') (by rw [hx1, hx2]; exact hown') hgrow'
        clear hown' hgrow' hown1
        go_wp2
        go_roundw
        case rel => exact ⟨n + 1, by omega, by go_num, by rw [Hst.out]; exact hnew⟩
        case measure => simp [intOf]; omega
    · obtain rfl : n = l.length := by omega
      rw [List.take_length] at hown
      have Hown := Lib.hid hown
      clear hown
      go_wp2_with fail
      go_ret
      exact ⟨u5, rfl, Hown.out⟩
end Go.Proofs.YtbfjageaheijbaaGreat
/- The document's own answers of layer 6: Put. -/
namespace Go.Proofs.YtbfjageaheijbaaGreat
open Go.RowKit

set_option maxRecDepth 100000 in
theorem low_cut : ∀ (l : List Sto.Pr) (k : Sto.Key) (n : Nat), (∀ j x, j < n → l[j]? = some x → x.1 < k) → (∀ x, l[n]? = some x → ¬ x.1 < k) → n ≤ l.length → Sto.low l k = l.take n ∧ Sto.high l k = l.drop n
  | [], k, n, _, _, hn => by
    have : n = 0 := by simpa using hn
    subst this
    exact ⟨rfl, rfl⟩
  | y :: l, k, 0, _, h2, _ => by
    have hy := h2 y rfl
    constructor
    · unfold Sto.low
      rw [List.takeWhile_cons, if_neg (by simpa using hy)]
      rfl
    · unfold Sto.high
      rw [List.dropWhile_cons, if_neg (by simpa using hy)]
      rfl
  | y :: l, k, n + 1, h1, h2, hn => by
    have hy := h1 0 y (by omega) rfl
    obtain ⟨r1, r2⟩ := low_cut l k n (fun j x hj hx => h1 (j + 1) x (by omega) (by simpa using hx)) (fun x hx => h2 x (by simpa using hx)) (by simpa using hn)
    constructor
    · unfold Sto.low at r1 ⊢
      rw [List.takeWhile_cons, if_pos (by simpa using hy), r1]
      rfl
    · unfold Sto.high at r2 ⊢
      rw [List.dropWhile_cons, if_pos (by simpa using hy), r2]
      rfl

set_option maxRecDepth 100000 in
/-- A string below another one. -/
theorem less_mk (a b : List UInt8) : (decide (a < b)) = decide ((mk a).data.toList < (mk b).data.toList) := rfl

set_option maxRecDepth 100000 in
/-- The three steps behind the search: the front, the pair, the rest. -/
theorem PairsOwn.front {wr w2 : World} {v : Value} {l : List Sto.Pr} (hg : ((wr.alloc (.cells #[] 50))).grownBy w2 (Value.slice (some ⟨wr.heap.size, 0, none⟩) 0 0).ownBlock)
    (hown : w2.ownsRow wr.heap.size 50 2 v (0 + l.length) ([] ++ l.flatMap prV)) : PairsOwn wr l v w2 := by
  refine ⟨by simpa using hown, ((Below.refl wr.heap.size wr).alloc (Nat.le_refl _) _).grown hg (by simp) (fun k hk => ?_)⟩
  have : wr.heap.size = k := by simpa [Value.ownBlock] using hk
  omega

set_option maxRecDepth 100000 in
/-- Owned from a later place on: owned from an earlier one on. -/
theorem own_lower {w : World} {a b t size n : Nat} {v : Value} {xs : List Value} (h : w.ownsRow b t size v n xs) (hab : a ≤ b) : w.ownsRow a t size v n xs := by
  refine ⟨h.1, ?_⟩
  rcases h.2 with h2 | ⟨g, cap, cur, hv, hb, r⟩
  · exact Or.inl h2
  · exact Or.inr ⟨g, cap, cur, hv, Nat.le_trans hab hb, r⟩

set_option maxRecDepth 100000 in
theorem PairsOwn.lower {w wr w2 : World} {l : List Sto.Pr} {v : Value} (h : PairsOwn wr l v w2) (hb : Below w.heap.size w wr) : PairsOwn w l v w2 := ⟨own_lower h.1 hb.size, hb.trans (h.2.mono hb.size)⟩

set_option maxRecDepth 100000 in
theorem PairsOwn.rest {w wr w2 : World} {v v' : Value} {l m : List Sto.Pr} (h : PairsOwn w l v wr) (hg : wr.grownBy w2 v.ownBlock) (hown : w2.ownsRow w.heap.size 50 2 v' (l.length + m.length) (l.flatMap prV ++ m.flatMap prV)) : PairsOwn w (l ++ m) v' w2 := by
  refine ⟨by rw [List.length_append, List.flatMap_append]; exact hown, h.2.grown hg h.2.size (fun k hk => (h.1.lt k hk).1)⟩

set_option maxRecDepth 100000 in
set_option maxHeartbeats 3200000 in
theorem ref_put {w : World} {F : Nat → Prop} {v : Value} {l : List Sto.Pr} (h : Pairs w F v l) (hl : l.length ≤ 1000000) (k x : ByteArray) :
    Calls Tryz.prog 40 #[v, .string k, .string x] w fun e w' => ∃ v', e = .returned v' ∧ PairsOwn w (Sto.put l k.data.toList x.data.toList) v' w' := by
  obtain ⟨i0, hi, hz0, hz1, hz2⟩ := info_parts pairInfo
  have hd := ref_drop h hl k
  obtain ⟨K, rfl⟩ : ∃ K, k = mk K := ⟨_, (mk_of k).symm⟩
  obtain ⟨X, rfl⟩ : ∃ X, x = mk X := ⟨_, (mk_of x).symm⟩
  rw [mk_data, mk_data]
  rw [mk_data] at hd
  have hdl := Sto.drop_len l K
  have hput : Hid (∀ a b, Sto.low (Sto.drop l K) K = a → Sto.high (Sto.drop l K) K = b → Sto.put l K X = a ++ [(K, X)] ++ b) := Lib.hid (by rintro a b rfl rfl; unfold Sto.put; simp)
  obtain ⟨D, hD⟩ : ∃ D, D = Sto.drop l K := ⟨_, rfl⟩
  rw [← hD] at hd hdl hput
  have hDl : (D.length : Int) ≤ 1000000 := by omega
  have Hd := Lib.hid hd
  have Hdl := Lib.hid (show D.length ≤ 1000000 by omega)
  clear hD h hd hl hdl
  go_enter Tryz.func40, Tryz.ntmps40
  go_wp2_with (go_at_call 39; refine (Hd.out).mono ?_; rintro e w1 ⟨v1, rfl, hown⟩)
  have hbel1 := hown.2
  have hz1' := hbel1.size
  rcases hown.1.2 with ⟨rfl, h0⟩ | ⟨g, cap, cur, rfl, hg0, hgb, hgc, -, -, -⟩
  · have hD0 : D = [] := List.eq_nil_of_length_eq_zero h0
    subst hD0
    obtain ⟨wr, rfl⟩ : ∃ wr : World, wr = w1 := ⟨_, rfl⟩
    have hfin := Lib.hid (hput.out [] [] rfl rfl)
    have h0own : (wr.alloc (.cells #[] 50)).ownsRow wr.heap.size 50 2 (.slice (some ⟨wr.heap.size, 0, none⟩) 0 0) 0 [] := World.ownsRow_made wr #[] 0 (Nat.le_refl _) (by decide) rfl
    clear hown
    generalize hkk : mk K = kk at *
    generalize hxx : mk X = xx at *
    have hc1 : ∀ {w1 : World} j u, [Value.string kk, Value.string xx][j]? = some u → (w1.alloc (.cells #[.string kk, .string xx] 50)).cell? ((⟨w1.heap.size, 0, none⟩ : Addr).add j) = some u := by
      intro w1 j u hj
      rw [Go.WideShapes.add_plain, (Row.made w1 _ _).at, Nat.zero_add]
      match j, hj with
      | 0, hj => simpa using hj
      | 1, hj => simpa using hj
    refine wp_loop_rounds 1 ?_
    rw [rounds_succ]
    go_wp2_with (first
      | (at_builtin; refine wp_join rfl _ _ 32 rfl wr.heap.size 50 i0 (.agg #[.string ⟨#[]⟩, .string ⟨#[]⟩]) 32 Tryz.underlying32 hi hz0 hz1 hz2 rfl (by decide) rfl rfl F3o (Rws.none (k := 2) (f := prV) _ (fun _ => False) 0) (fun x _ => pr_len x) (fun x _ => pr_one x) ?b1 ?b2 ?b3 ?_; (case b1 => (simp only [List.length_append, List.length_cons, List.length_nil]; unfold maxLen; omega)); (case b2 => (simp only [List.length_append, List.length_cons, List.length_nil]; omega)); (case b3 => omega); intro v4 w4 own4 hg4)
      | (at_builtin; refine wpList_append_own _ rfl _ _ 32 rfl wr.heap.size 50 i0 (.agg #[.string ⟨#[]⟩, .string ⟨#[]⟩]) 2 32 Tryz.underlying32 hi hz0 hz1 hz2 rfl (by decide) _ _ _ rfl (F2o.alloc _) ⟨w2.heap.size, 0, none⟩ 1 1 [.string kk, .string xx] rfl rfl hc1 ?c2 ?c3 ?c4 ?c5 ?_; (case c2 => (intro u hu; rcases List.mem_cons.1 hu with e | e; (rw [e]; rfl); (rw [List.mem_singleton.1 e]; rfl))); (case c3 => (simp; unfold maxLen; omega)); (case c4 => (simp)); (case c5 => first | omega | (simp; omega)); intro v3 w3 own3 hg3 _; have F3 := F2.more (x := (K, X)) (v' := v3) (by rw [hkk, hxx]; exact own3) hg3; have hs3 := F3.2.size; have F3o := F3.1)
      | (at_builtin; refine wp_join rfl _ _ 32 rfl wr.heap.size 50 i0 (.agg #[.string ⟨#[]⟩, .string ⟨#[]⟩]) 32 Tryz.underlying32 hi hz0 hz1 hz2 rfl (by decide) rfl rfl h0own (Rws.none (k := 2) (f := prV) _ (fun _ => False) 0) (fun x _ => pr_len x) (fun x _ => pr_one x) ?a1 ?a2 ?a3 ?_; (case a1 => (simp [maxLen])); (case a2 => simp); (case a3 => simp); intro v2 w2 own2 hg2; have F2 := PairsOwn.front hg2 own2; have hs2 := F2.2.size; have F2o := F2.1))
    go_ret
    have F4 := F3.rest hg4 own4
    refine ⟨v4, rfl, ?_⟩
    rw [hfin.out]
    exact F4.lower hbel1
  · have Hown := Lib.hid hown
    have hgl : g < w1.heap.size := lt_of_block hgb
    clear hown hgb
    go_loopw [7] (fun i wr => ∃ n : Nat, n ≤ D.length ∧ i = .int .i64 (n : Int) ∧ (∀ j x, j < n → D[j]? = some x → x.1 < K) ∧ wr = w1) (fun i _ => D.length - (intOf i).toNat)
    case atStart => exact ⟨0, Nat.zero_le _, rfl, (fun j x hj => absurd hj (by omega)), rfl⟩
    case round =>
      obtain ⟨n, hn, rfl, hlow, rfl⟩ := hrel
      have hn0 : (0 : Int) ≤ (n : Int) := by omega
      have hnD : (n : Int) ≤ (D.length : Int) := by omega
      have Hlow := Lib.hid hlow
      clear hlow
      by_cases hgo : ∃ x, D[n]? = some x ∧ x.1 < K
      · obtain ⟨x, hx, hk⟩ := hgo
        have hlt : n < D.length := by obtain ⟨h, _⟩ := List.getElem?_eq_some_iff.1 hx; exact h
        have hn1 : (n : Int) < (D.length : Int) := by omega
        obtain ⟨c0, c1⟩ := Pairs.at Hown.out.pairs hx
        rw [Nat.zero_add] at c0 c1
        have hb1 : Op.bytesLess (mk x.1).toList (mk K).toList = true := by rw [Proofs.bytesLess_eq, Lib.toList_data, Lib.toList_data]; exact decide_eq_true hk
        have Hx := Lib.hid hx
        have Hk := Lib.hid hk
        clear hx hk
        generalize mk x.1 = x1 at *
        generalize mk x.2 = x2 at *
        generalize mk K = kk at *
        go_wp2_with fail
        refine ⟨⟨n + 1, by omega, rfl, fun j y hj hy => ?_, by first | rfl | trivial⟩, ?_⟩
        · by_cases e : j = n
          · rw [e, Hx.out] at hy
            injection hy with hy
            rw [← hy]; exact Hk.out
          · exact Hlow.out j y (by omega) hy
        · show D.length - ((n : Int) + 1).toNat < D.length - (n : Int).toNat
          omega
      · have hcase : (∃ x1 x2, wr.cell? ⟨g, n * 2, none⟩ = some (.string x1) ∧ wr.cell? ⟨g, n * 2 + 1, none⟩ = some (.string x2) ∧ Op.bytesLess x1.toList (mk K).toList = false ∧ (n : Int) < (D.length : Int)) ∨ ¬ (n : Int) < (D.length : Int) := by
          by_cases hlt : n < D.length
          · obtain ⟨x, hx⟩ : ∃ x, D[n]? = some x := ⟨_, List.getElem?_eq_getElem hlt⟩
            obtain ⟨c0, c1⟩ := Pairs.at Hown.out.pairs hx
            rw [Nat.zero_add] at c0 c1
            exact Or.inl ⟨_, _, c0, c1, by rw [Proofs.bytesLess_eq, Lib.toList_data, Lib.toList_data]; exact decide_eq_false (fun h => hgo ⟨x, hx, h⟩), by omega⟩
          · exact Or.inr (by omega)
        obtain ⟨q1, q2⟩ := low_cut D K n Hlow.out (fun y hy hk => hgo ⟨y, hy, hk⟩) hn
        have hfin := Lib.hid (hput.out _ _ q1 q2)
        have h0own : (wr.alloc (.cells #[] 50)).ownsRow wr.heap.size 50 2 (.slice (some ⟨wr.heap.size, 0, none⟩) 0 0) 0 [] := World.ownsRow_made wr #[] 0 (Nat.le_refl _) (by decide) rfl
        have Hfront : Hid (∀ w', Below wr.heap.size wr w' → Pairs w' (NewIn w w') (.slice (some ⟨g, 0, none⟩) n cap) (D.take n)) := Lib.hid (fun w' hw' => by
          have := (Hown.out.pairs.below hw').take rfl n hn cap (by omega)
          exact this.mono (fun i hi => ⟨hi.1, Nat.lt_of_lt_of_le hi.2 hw'.size⟩))
        have Htl : Hid ((D.take n).length = n) := Lib.hid (by rw [List.length_take]; omega)
        clear q1 q2 hgo
        generalize hkk : mk K = kk at *
        generalize hxx : mk X = xx at *
        have hc1 : ∀ {w1 : World} j u, [Value.string kk, Value.string xx][j]? = some u → (w1.alloc (.cells #[.string kk, .string xx] 50)).cell? ((⟨w1.heap.size, 0, none⟩ : Addr).add j) = some u := by
          intro w1 j u hj
          rw [Go.WideShapes.add_plain, (Row.made w1 _ _).at, Nat.zero_add]
          match j, hj with
          | 0, hj => simpa using hj
          | 1, hj => simpa using hj
        have Hback : Hid (∀ w', Below wr.heap.size wr w' → Pairs w' (NewIn w w') (.slice (some ⟨g, n * 2, none⟩) (D.length - n) (cap - n)) (D.drop n)) := Lib.hid (fun w' hw' => by
          have := (Hown.out.pairs.below hw').drop rfl n hn (cap - n) (by omega)
          rw [Nat.zero_add] at this
          exact this.mono (fun i hi => ⟨hi.1, Nat.lt_of_lt_of_le hi.2 hw'.size⟩))
        have Hzero : Hid (¬ (n : Int) < (D.length : Int) → ∀ A c w', Pairs w' (NewIn w w') (.slice A (D.length - n) c) (D.drop n)) := Lib.hid (fun hh A c w' => by
          have e : D.length - n = 0 := by omega
          rw [List.drop_of_length_le (by omega), e]
          exact Rws.empty _ _ _ _)
        have Hbl : Hid ((D.drop n).length = D.length - n) := Lib.hid List.length_drop
        rcases hcase with ⟨x1, x2, c0, c1, hb1, hn1⟩ | hn1
        all_goals
          go_wp2_with (first
            | (at_builtin; refine wp_join rfl _ _ 32 rfl wr.heap.size 50 i0 (.agg #[.string ⟨#[]⟩, .string ⟨#[]⟩]) 32 Tryz.underlying32 hi hz0 hz1 hz2 rfl (by decide) rfl rfl F3o (Hback.out _ F3.2) (fun x _ => pr_len x) (fun x _ => pr_one x) ?b1 ?b2 ?b3 ?_; (case b1 => (have := Htl.out; have := Hbl.out; simp only [List.length_append, List.length_cons, List.length_nil]; unfold maxLen; omega)); (case b2 => (have := Htl.out; have := Hbl.out; simp only [List.length_append, List.length_cons, List.length_nil]; omega)); (case b3 => omega); intro v4 w4 own4 hg4)
            | (at_builtin; refine wp_join rfl _ _ 32 rfl wr.heap.size 50 i0 (.agg #[.string ⟨#[]⟩, .string ⟨#[]⟩]) 32 Tryz.underlying32 hi hz0 hz1 hz2 rfl (by decide) rfl rfl F3o (Hzero.out hn1 _ _ _) (fun x _ => pr_len x) (fun x _ => pr_one x) ?b1 ?b2 ?b3 ?_; (case b1 => (have := Htl.out; have := Hbl.out; simp only [List.length_append, List.length_cons, List.length_nil]; unfold maxLen; omega)); (case b2 => (have := Htl.out; have := Hbl.out; simp only [List.length_append, List.length_cons, List.length_nil]; omega)); (case b3 => omega); intro v4 w4 own4 hg4)
            | (at_builtin; refine wpList_append_own _ rfl _ _ 32 rfl wr.heap.size 50 i0 (.agg #[.string ⟨#[]⟩, .string ⟨#[]⟩]) 2 32 Tryz.underlying32 hi hz0 hz1 hz2 rfl (by decide) _ _ _ rfl (F2o.alloc _) ⟨w2.heap.size, 0, none⟩ 1 1 [.string kk, .string xx] rfl rfl hc1 ?c2 ?c3 ?c4 ?c5 ?_; (case c2 => (intro u hu; rcases List.mem_cons.1 hu with e | e; (rw [e]; rfl); (rw [List.mem_singleton.1 e]; rfl))); (case c3 => (have := Htl.out; unfold maxLen; omega)); (case c4 => (have := Htl.out; omega)); (case c5 => first | omega | (simp; omega)); intro v3 w3 own3 hg3 _; have F3 := F2.more (x := (K, X)) (v' := v3) (by rw [hkk, hxx]; exact own3) hg3; have hs3 := F3.2.size; have F3o := F3.1)
            | (at_builtin; refine wp_join rfl _ _ 32 rfl wr.heap.size 50 i0 (.agg #[.string ⟨#[]⟩, .string ⟨#[]⟩]) 32 Tryz.underlying32 hi hz0 hz1 hz2 rfl (by decide) rfl rfl h0own (Hfront.out _ ((Below.refl wr.heap.size wr).alloc (Nat.le_refl _) _)) (fun x _ => pr_len x) (fun x _ => pr_one x) ?a1 ?a2 ?a3 ?_; (case a1 => (have := Htl.out; unfold maxLen; omega)); (case a2 => (have := Htl.out; omega)); (case a3 => simp); intro v2 w2 own2 hg2; have F2 := PairsOwn.front hg2 own2; have hs2 := F2.2.size; have F2o := F2.1))
          all_goals
            go_ret
            have F4 := F3.rest hg4 own4
            refine ⟨v4, rfl, ?_⟩
            rw [hfin.out]
            exact F4.lower hbel1
end Go.Proofs.YtbfjageaheijbaaGreat
