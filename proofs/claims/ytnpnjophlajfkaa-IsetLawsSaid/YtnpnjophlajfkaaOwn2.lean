/- What is appended to the call's own: where it stands then (in the block that it had, or in a new one). No program is spoken of. -/
import Derived.Test.YtnpnjophlajfkaaRowsOwn
namespace Go.Proofs.Ytnpnjophlajfkaa
open Go.RowKit

/-- The value's block is as it was, or new. -/
def Near (w : World) (v v' : Value) : Prop := v'.ownBlock = v.ownBlock ∨ ∀ g, v'.ownBlock = some g → w.heap.size ≤ g
set_option maxRecDepth 100000 in
theorem Near.refl (w : World) (v : Value) : Near w v v := Or.inl rfl
set_option maxRecDepth 100000 in
theorem Near.apart {w w' : World} {u v v' : Value} {base t size n : Nat} {xs : List Value} (h : Near w' v v') (ha : ∀ g, u.ownBlock = some g → v.ownBlock ≠ some g) (hu : w.ownsRow base t size u n xs) (hs : w.heap.size ≤ w'.heap.size) : ∀ g, u.ownBlock = some g → v'.ownBlock ≠ some g := by
  intro g hg e
  rcases h with h | h
  · exact ha g hg (h ▸ e)
  · have := (hu.lt g hg).2
    have := h g e
    omega

section
variable {P : Program} {α : Type} {k : Nat} {f : α → List Value}

set_option maxRecDepth 100000 in
theorem append_near {w : World} (base : Nat) (t ty e : TypeId) (i : TypeInfo) (z : Value) (size bytes : Nat) (ht : P.underlying t = some (.slice e)) (hi : P.info? e = some i) (hz : i.zero = some z)
    (hsize : i.size = size) (hby : i.bytes = bytes) (hzs : z.cells.size = size) (hsz : 0 < size) {v : Value} {n : Nat} {xs : List Value} (hown : w.ownsRow base e size v n xs)
    (a : Addr) (m c : Nat) (news : List Value) (hl : news.length = m * size) (hnews : ∀ j u, news[j]? = some u → w.cell? (a.add j) = some u) (h1 : ∀ u ∈ news, u.oneCell' = true)
    (h63 : n + m ≤ maxLen) (hbytes : (n + m) * bytes ≤ 140737488355328) {v' : Value} {w' : World} (hr : (Builtin.append_ #[t, t] ty #[v, .slice (some a) m c]).run P w = .ok v' w') : Near w v v' := by
  have hsmall : n + m ≤ 9223372036854775807 := by simp only [maxLen] at h63; omega
  rcases hown.2 with ⟨rfl, rfl⟩ | ⟨g, cap, cur, rfl, hbg, hg, hnc, hcm, hcs, htake⟩
  · obtain ⟨v2, w2, r1, r2, -, -⟩ := run_append_own w w.heap.size t ty e i z size bytes ht hi hz hsize hby hzs hsz (.slice none 0 0) 0 [] (World.ownsRow_nil _ _ _ _) a m c news hl hnews h1 h63 hbytes (Nat.le_refl _)
    rw [hr] at r1
    injection r1 with e1 e2
    subst e1
    exact Or.inr (fun g hg => (r2.lt g hg).1)
  · subst hsize
    subst hby
    by_cases hroom : n + m ≤ cap
    · have hfit : n * i.size + news.length ≤ cur.size := by rw [hl, hcs, ← Nat.add_mul]; exact Nat.mul_le_mul_right _ hroom
      have r1 := run_append_room (P := P) w t ty e i ht hi g n cap cur hg a m c news hl hnews h1 hroom hfit
      rw [hr] at r1
      injection r1 with e1 e2
      subst e1
      exact Or.inl rfl
    · have r1 := run_append_grow (P := P) w t ty e i z ht hi hz ⟨g, 0, none⟩ n cap xs hown.1 (hown.cells (g := g) rfl) a m c news hl hnews (by omega) (by omega) (growslice_fits (by omega) hbytes)
      rw [hr] at r1
      injection r1 with e1 e2
      subst e1
      exact Or.inr (fun g' hg' => by have : w.heap.size = g' := by simpa [Value.ownBlock] using hg'
                                     omega)

set_option maxRecDepth 100000 in
/-- The call's own, and behind it what another slice reads as. -/
theorem join_near {w : World} (base : Nat) (t ty e : TypeId) (i : TypeInfo) (z : Value) (bytes : Nat) (ht : P.underlying t = some (.slice e)) (hi : P.info? e = some i) (hz : i.zero = some z) (hsize : i.size = k) (hby : i.bytes = bytes) (hzs : z.cells.size = k) (hsz : 0 < k)
    {v xv : Value} {n : Nat} {xs : List Value} {F : Nat → Prop} {l : List α} (hown : w.ownsRow base e k v n xs) (hx : Rws k f w F xv l) (hk : ∀ x ∈ l, (f x).length = k) (h1 : ∀ x ∈ l, ∀ u ∈ f x, u.oneCell' = true)
    (h63 : n + l.length ≤ maxLen) (hbytes : (n + l.length) * bytes ≤ 140737488355328) (hbase : base ≤ w.heap.size) :
    ∃ v' w', (Builtin.append_ #[t, t] ty #[v, xv]).run P w = .ok v' w' ∧ w'.ownsRow base e k v' (n + l.length) (xs ++ l.flatMap f) ∧ w.grownBy w' v.ownBlock ∧ Near w v v' := by
  obtain ⟨v', w', r1, r2, r3⟩ := join_rows (P := P) base t ty e i z bytes ht hi hz hsize hby hzs hsz hown hx hk h1 h63 hbytes hbase
  refine ⟨v', w', r1, r2, r3, ?_⟩
  obtain ⟨A, c, rfl, hc, hat⟩ := hx
  have hone : ∀ u ∈ l.flatMap f, u.oneCell' = true := by
    intro u hu
    obtain ⟨x, hx, hu⟩ := List.mem_flatMap.1 hu
    exact h1 x hx u hu
  have hgo : ∀ ad : Addr, A = some ad → (∀ j u, (l.flatMap f)[j]? = some u → w.cell? (ad.add j) = some u) → Near w v v' := by
    rintro ad rfl hnews
    exact append_near base t ty e i z k bytes ht hi hz hsize hby hzs hsz hown ad l.length c (l.flatMap f) (rows_len l hk) hnews hone h63 hbytes r1
  by_cases h0 : 0 < l.length
  · obtain ⟨b, o, rfl, -, hbl, hcell⟩ := hat h0
    refine hgo _ rfl (fun j u hu => ?_)
    obtain ⟨m, x, r, e1, e2, rfl⟩ := rows_of l hk j u hu
    rw [Go.WideShapes.add_plain, ← Nat.add_assoc]
    exact hcell m x e1 r u e2
  · have hl : l = [] := List.eq_nil_of_length_eq_zero (by omega)
    subst hl
    cases A with
    | none =>
      have r4 := join_nothing (P := P) base t ty e i k c ht hi v n xs hown
      rw [show ([] : List α).length = 0 from rfl, r4] at r1
      injection r1 with e1 e2
      exact Or.inl (by rw [e1])
    | some ad => exact hgo ad rfl (fun j u hu => by simp at hu)

set_option maxRecDepth 100000 in
theorem wp_joins {ops : Array Oper} {rest : List Oper} {o : Oper} {a : Act} {w : World} {Q : Exit → Act → World → Prop} (hgd : o.guard = none) (s x : Operand) (t : TypeId)
    (ho : o.op = .call { callee := .builtin .append, args := #[s, x], argTypes := #[t, t] }) (base : Nat) (e : TypeId) (i : TypeInfo) (z : Value) (bytes : Nat) (ht : P.underlying t = some (.slice e)) (hi : P.info? e = some i) (hz : i.zero = some z)
    (hsize : i.size = k) (hby : i.bytes = bytes) (hzs : z.cells.size = k) (hsz : 0 < k) {v xv : Value} {n : Nat} {xs : List Value} {F : Nat → Prop} {l : List α} (hs : a.eval s = v) (hx : a.eval x = xv)
    (hown : w.ownsRow base e k v n xs) (hr : Rws k f w F xv l) (hk : ∀ x ∈ l, (f x).length = k) (h1 : ∀ x ∈ l, ∀ u ∈ f x, u.oneCell' = true) (h63 : n + l.length ≤ maxLen) (hbytes : (n + l.length) * bytes ≤ 140737488355328) (hbase : base ≤ w.heap.size)
    (h : ∀ v' w', w'.ownsRow base e k v' (n + l.length) (xs ++ l.flatMap f) → w.grownBy w' v.ownBlock → Near w v v' → wpList P ops Q rest (a.put o.dst v') w') : wpList P ops Q (o :: rest) a w :=
  wpList_plain hgd fun _ hK => by
    obtain ⟨v', w', r1, r2, r3, r4⟩ := join_near (P := P) base t o.type e i z bytes ht hi hz hsize hby hzs hsz hown hr hk h1 h63 hbytes hbase
    unfold Oper.wp execOp
    simp only [ho, resolve, invoke, builtin, Sem.run_bind, Sem.run_pure, Result.andThen_ok, List.map_toArray, List.map_cons, List.map_nil, hs, hx, r1]
    exact hK _ _ (h v' w' r2 r3 r4)
set_option maxRecDepth 100000 in
theorem step_near {ops : Array Oper} {o : Oper} {a : Act} {w : World} {K : Act → World → Prop} {Q : Exit → Act → World → Prop} {E : Prop} (hgd : o.guard = none) (s x : Operand) (t : TypeId)
    (ho : o.op = .call { callee := .builtin .append, args := #[s, x], argTypes := #[t, t] }) (base : Nat) (e : TypeId) (i : TypeInfo) (z : Value) (bytes : Nat) (ht : P.underlying t = some (.slice e)) (hi : P.info? e = some i) (hz : i.zero = some z)
    (hsize : i.size = k) (hby : i.bytes = bytes) (hzs : z.cells.size = k) (hsz : 0 < k) {v xv : Value} {n : Nat} {xs : List Value} {F : Nat → Prop} {l : List α} (hs : a.eval s = v) (hx : a.eval x = xv)
    (hown : w.ownsRow base e k v n xs) (hr : Rws k f w F xv l) (hk : ∀ x ∈ l, (f x).length = k) (h1 : ∀ x ∈ l, ∀ u ∈ f x, u.oneCell' = true) (h63 : n + l.length ≤ maxLen) (hbytes : (n + l.length) * bytes ≤ 140737488355328) (hbase : base ≤ w.heap.size)
    (h : ∀ v' w', w'.ownsRow base e k v' (n + l.length) (xs ++ l.flatMap f) → w.grownBy w' v.ownBlock → Near w v v' → K (a.put o.dst v') w') :
    if Region.wanted o (yielded ops a.tmps) = true then Oper.wp P o a w K Q else E := by
  rw [if_pos (by simp [Region.wanted, hgd])]
  obtain ⟨v', w', r1, r2, r3, r4⟩ := join_near (P := P) base t o.type e i z bytes ht hi hz hsize hby hzs hsz hown hr hk h1 h63 hbytes hbase
  unfold Oper.wp execOp
  simp only [ho, resolve, invoke, builtin, Sem.run_bind, Sem.run_pure, Result.andThen_ok, List.map_toArray, List.map_cons, List.map_nil, hs, hx, r1]
  exact h v' w' r2 r3 r4
end

set_option maxRecDepth 100000 in
/-- Whose block was left alone is still the call's own. -/
theorem own_left {w w' : World} {base t size n : Nat} {v : Value} {xs : List Value} {r : Option Nat} (h : w.ownsRow base t size v n xs) (hg : w.grownBy w' r) (hne : ∀ g, v.ownBlock = some g → r ≠ some g) : w'.ownsRow base t size v n xs := by
  refine ⟨h.1, ?_⟩
  rcases h.2 with h2 | ⟨g, cap, cur, rfl, hb, hgb, rest⟩
  · exact .inl h2
  · have hlt := (h.lt g rfl).2
    exact .inr ⟨g, cap, cur, rfl, hb, (hg.block g hlt (fun e => hne g rfl e.symm)).trans hgb, rest⟩
end Go.Proofs.Ytnpnjophlajfkaa
