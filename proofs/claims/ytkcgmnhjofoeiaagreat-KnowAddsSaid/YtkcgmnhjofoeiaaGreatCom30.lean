import Derived.Test.YtkcgmnhjofoeiaaGreatCom29
set_option maxRecDepth 100000
set_option linter.all false
namespace Go.Proofs.YtkcgmnhjofoeiaaGreat
open Go.RowKit Go.Sort
theorem askZero (w : World) : (zeroValue 35).run Tryz.prog w = .ok (.agg #[.int .i64 0, .int .i64 0, .int .i64 0, .int .i64 0, .slice none 0 0]) w := by kernel_rfl
theorem askSize (i v : Ver.V) (c : Value) : (Tryz.prog.info? 35).map (·.size) = some (askV i v c).length := by kernel_rfl
section
variable {ops : Array Oper} {o : Oper} {a : Act} {w : World} {K : Act → World → Prop} {Q : Exit → Act → World → Prop} {E : Prop}
theorem step_kalloc (hgd : o.guard = none) (ho : o.op = .alloc 25)
  (h : ∀ (g : Nat) (w' : World), w.heap.size = g → Row w' g 25 #[.slice none 0 0, .slice none 0 0] → Below w.heap.size w w' → K (a.put o.dst (.pointer (some ⟨g, 0, none⟩))) w') : if Region.wanted o (yielded ops a.tmps) = true then Oper.wp Tryz.prog o a w K Q else E := by
 rw [if_pos (by simp [Region.wanted, hgd])]
 have hz := knZero
 have h1 := h w.heap.size (w.alloc (.cells #[.slice none 0 0, .slice none 0 0] 25)) rfl (Row.made w _ _) ((Below.refl _ _).alloc (Nat.le_refl _) _)
 unfold Oper.wp execOp
 simp only [ho]
 go_simp
 exact h1
theorem step_falloc (hgd : o.guard = none) (ho : o.op = .alloc 31)
  (h : ∀ (g : Nat) (w' : World), w.heap.size = g → Row w' g 31 (rfV frZ).toArray → Below w.heap.size w w' → K (a.put o.dst (.pointer (some ⟨g, 0, none⟩))) w') : if Region.wanted o (yielded ops a.tmps) = true then Oper.wp Tryz.prog o a w K Q else E := by
 rw [if_pos (by simp [Region.wanted, hgd])]
 have hz := frZero
 have h1 := h w.heap.size (w.alloc (.cells (rfV frZ).toArray 31)) rfl (Row.made w _ _) ((Below.refl _ _).alloc (Nat.le_refl _) _)
 unfold Oper.wp execOp
 simp only [ho]
 go_simp
 exact h1
theorem step_aalloc (hgd : o.guard = none) (ho : o.op = .alloc 35)
  (h : ∀ (g : Nat) (w' : World), w.heap.size = g → Row w' g 35 #[.int .i64 0, .int .i64 0, .int .i64 0, .int .i64 0, .slice none 0 0] → Below w.heap.size w w' → K (a.put o.dst (.pointer (some ⟨g, 0, none⟩))) w') : if Region.wanted o (yielded ops a.tmps) = true then Oper.wp Tryz.prog o a w K Q else E := by
 rw [if_pos (by simp [Region.wanted, hgd])]
 have hz := askZero
 have h1 := h w.heap.size (w.alloc (.cells #[.int .i64 0, .int .i64 0, .int .i64 0, .int .i64 0, .slice none 0 0] 35)) rfl (Row.made w _ _) ((Below.refl _ _).alloc (Nat.le_refl _) _)
 unfold Oper.wp execOp
 simp only [ho]
 go_simp
 exact h1
end
theorem two_slices {A B : Option Addr} {m n c d : Nat} {u : Value} (hu : ∀ A n c, u ≠ .slice A n c) : ∀ i : Nat, (#[.slice A m c, .slice B n d] : Array Value)[i]? ≠ some u := by
 intro i e
 rcases i with _ | _ | i
 ·injection e with e; exact hu _ _ _ e.symm
 ·injection e with e; exact hu _ _ _ e.symm
 ·cases e
theorem Kns.box {w w' : World} {F : Nat → Prop} {v : Value} {k : Know.K} {b m n c d : Nat} {t : TypeId} {A B : Option Addr} (h : Kns w F v k) (hr : Row w b t #[.slice A m c, .slice B n d]) (hk : Kept (fun i => i = b) w w') : Kns w' F v k := by
 obtain ⟨x, y, e, ⟨rs, e2, h1, h2⟩, h3⟩ := h
 refine ⟨x, y, e, ⟨rs, e2, ?_, fun r hx => ?_⟩, ?_⟩
 ·have := Rws.outside h1 hr (fun r hx => by
   have h65 := (h2 r hx).len
   obtain ⟨n0, t0, e0⟩ : ∃ n0 t0, r.x.v = n0 :: t0 := by
    cases hv : r.x.v with
    | nil => rw [hv] at h65; cases h65
    | cons a t => exact ⟨a, t, rfl⟩
   exact ⟨1, .int .i64 n0, by unfold rfV vecL; rw [e0]; rfl, two_slices (fun _ _ _ q => by cases q)⟩)
  exact (this.kept hk (fun i hi e => hi.2 e)).mono (fun i hi => hi.1)
 ·have := (h2 r hx).away hr
  exact (this.kept hk (fun i hi e => hi.2 e)).mono (fun i hi => hi.1)
 ·have h4 := (Rws.outside h3.1 hr (fun x hx => ⟨0, _, rfl, two_slices (fun _ _ _ q => by cases q)⟩))
  exact ⟨(h4.kept hk (fun i hi e => hi.2 e)).mono (fun i hi => hi.1), h3.2⟩
theorem Cls.outside {w : World} {F : Nat → Prop} {v : Value} {l : List Flt.Cl} {b : Nat} {t : TypeId} {cs : Array Value} (h : Cls w F v l) (hr : Row w b t cs) (hs : ∀ (i : Nat) (p : ByteArray), cs[i]? ≠ some (.string p)) : Cls w (fun i => F i ∧ i ≠ b) v l :=
 Rws.outside h hr (fun x _ => ⟨0, _, rfl, fun i => hs i _⟩)
section
variable {w0 w w1 w' : World} {v : Value} {c : Know.K}
theorem SanNew.below (h : SanNew w0 w v c w1) (hb : Below w1.heap.size w1 w') : SanNew w0 w v c w' := by
 obtain ⟨A, m, e, B, n, d, rs, e1, e2, h1, h2, h3, h4, h5⟩ := h
 exact ⟨A, m, e, B, n, d, rs, e1, e2, Rws.below h1 hb, fun r hr => (h2 r hr).below hb, fun r hr => Rws.below (h3 r hr) hb, Rws.below h4 hb, h5⟩
theorem SanNew.parts (h : SanNew w0 w v c w1) : ∃ A m e B n d, v = .agg #[.slice A m e, .slice B n d] := by
 obtain ⟨A, m, e, B, n, d, rs, e1, -⟩ := h
 exact ⟨A, m, e, B, n, d, e1⟩
theorem SanNew.box {b : Nat} {t : TypeId} {cs : Array Value} (h : SanNew w0 w v c w1) (hr : Row w1 b t cs) (hb : b < w.heap.size) (ho : w0.heap.size ≤ b) (hs : ∀ (i : Nat) (p : ByteArray), cs[i]? ≠ some (.string p)) (hk : Kept (fun i => i = b) w1 w') : SanNew w0 w v c w' := by
 obtain ⟨A, m, e, B, n, d, rs, e1, e2, h1, h2, h3, h4, h5⟩ := h
 refine ⟨A, m, e, B, n, d, rs, e1, e2, h1.kept hk (fun i hi e => ?_), fun r hr' => ⟨?_, ((h3 r hr').kept hk (fun i hi e => ?_)).mono (fun _ _ => trivial), (h2 r hr').len⟩, fun r hr' => (h3 r hr').kept hk (fun i hi e => ?_), h4.kept hk (fun i hi e => ?_), h5⟩
 ·have hi : w.heap.size ≤ i := hi; have e : i = b := e; omega
 ·exact ((Cls.outside (h2 r hr').f hr hs).kept hk (fun i hi e => hi.2 e)).mono (fun i hi => hi.1)
 ·have hi : i < w0.heap.size := hi; have e : i = b := e; omega
 ·have hi : i < w0.heap.size := hi; have e : i = b := e; omega
 ·have hi : i < w0.heap.size := hi; have e : i = b := e; omega
end
theorem rf_nostr {A B : Option Addr} {n c m d : Nat} {x : Know.Fr} (hx : x.v.length = 65) : ∀ (i : Nat) (p : ByteArray), (rfV ⟨.slice A n c, .slice B m d, x⟩).toArray[i]? ≠ some (.string p) := by
 intro i p e
 rw [List.getElem?_toArray] at e
 have h := List.mem_of_getElem? e
 unfold rfV at h
 rcases List.mem_cons.1 h with h | h
 ·cases h
 ·rcases List.mem_append.1 h with h | h
  ·obtain ⟨n, _, h⟩ := List.mem_map.1 h
   cases h
  ·rw [List.mem_singleton] at h; cases h
theorem two_nostr {A B : Option Addr} {m n c d : Nat} : ∀ (i : Nat) (p : ByteArray), (#[.slice A m c, .slice B n d] : Array Value)[i]? ≠ some (.string p) := fun i p => two_slices (fun _ _ _ q => by cases q) i
open Go.RowKit Go.Sort
theorem Kns.two {w : World} {F : Nat → Prop} {a b : Value} {k : Know.K} (h : Kns w F (.agg #[a, b]) k) : Frs w F a k.frags ∧ Its w F b k.items := by
 obtain ⟨x, y, e, h1, h2⟩ := h
 have e := Value.agg.inj e
 have e := congrArg Array.toList e
 injection e with e1 e2
 injection e2 with e2 _
 subst e1
 subst e2
 exact ⟨h1, h2⟩
theorem rws_row {α : Type} {k : Nat} {f : α → List Value} {w : World} {g : Nat} {t : TypeId} {r : α} (h : Row w g t (f r).toArray) : Rws k f w AnyB (.slice (some ⟨g, 0, none⟩) 1 1) [r] := by
 refine ⟨_, 1, rfl, Nat.le_refl _, fun _ => ⟨g, 0, rfl, trivial, h.inHeap, fun i x hx j u hu => ?_⟩⟩
 have hi : i = 0 := by obtain ⟨h, _⟩ := List.getElem?_eq_some_iff.1 hx; simpa using h
 subst hi
 have e : x = r := by simpa using hx.symm
 subst e
 have := range_row h j u hu
 rw [Nat.zero_add] at this
 simpa using this
theorem row_thru {X Y : World} {g : Nat} {t : TypeId} {cs : Array Value} {F : Nat → Prop} (h : Row X g t cs) (hk : Kept F X Y) (hn : ¬ F g) : ∀ W, Below Y.heap.size Y W → Row W g t cs := fun W hb => (h.kept hk hn).below hb (h.kept hk hn).inHeap
section
variable {ops : Array Oper} {o : Oper} {a : Act} {w : World} {K : Act → World → Prop} {Q : Exit → Act → World → Prop} {E : Prop}
theorem step_build0k (hgd : o.guard = none) (ho : o.op = .buildSlice 23 0 #[]) (base : Nat) (hb : base ≤ w.heap.size)
  (h : ∀ (g : Nat) (w' : World), w.heap.size = g → w'.ownsRow base 45 67 (.slice (some ⟨g, 0, none⟩) 0 0) 0 [] → Below w.heap.size w w' → K (a.put o.dst (.slice (some ⟨g, 0, none⟩) 0 0)) w') : if Region.wanted o (yielded ops a.tmps) = true then Oper.wp Tryz.prog o a w K Q else E := by
 rw [if_pos (by simp [Region.wanted, hgd])]
 obtain ⟨i1, hi1, hy0, hy1, hy2⟩ := ver_parts itInfo
 have h1 := h w.heap.size (w.alloc (.cells #[] 45)) rfl (World.ownsRow_made w #[] 0 hb (by decide) rfl) ((Below.refl _ _).alloc (Nat.le_refl _) _)
 unfold Oper.wp execOp
 simp only [ho]
 go_simp
 exact h1
theorem step_build0f (hgd : o.guard = none) (ho : o.op = .buildSlice 22 0 #[]) (base : Nat) (hb : base ≤ w.heap.size)
  (h : ∀ (g : Nat) (w' : World), w.heap.size = g → w'.ownsRow base 31 67 (.slice (some ⟨g, 0, none⟩) 0 0) 0 [] → Below w.heap.size w w' → K (a.put o.dst (.slice (some ⟨g, 0, none⟩) 0 0)) w') : if Region.wanted o (yielded ops a.tmps) = true then Oper.wp Tryz.prog o a w K Q else E := by
 rw [if_pos (by simp [Region.wanted, hgd])]
 obtain ⟨i1, hi1, hy0, hy1, hy2⟩ := ver_parts frInfo
 have h1 := h w.heap.size (w.alloc (.cells #[] 31)) rfl (World.ownsRow_made w #[] 0 hb (by decide) rfl) ((Below.refl _ _).alloc (Nat.le_refl _) _)
 unfold Oper.wp execOp
 simp only [ho]
 go_simp
 exact h1
theorem step_one (hgd : o.guard = none) (t e : TypeId) (x : Operand) (ho : o.op = .buildSlice t 1 #[(0, x)]) {cs : List Value} {i : TypeInfo} {z : Value} (hx : a.eval x = .agg cs.toArray)
  (hu : Tryz.prog.underlying t = some (.slice e)) (hi : Tryz.prog.info? e = some i) (hz : i.zero = some z) (h67 : i.size = 67) (hl : cs.length = 67)
  (h : ∀ (g : Nat) (w' : World), w.heap.size = g → Row w' g e cs.toArray → Below w.heap.size w w' → K (a.put o.dst (.slice (some ⟨g, 0, none⟩) 1 1)) w') : if Region.wanted o (yielded ops a.tmps) = true then Oper.wp Tryz.prog o a w K Q else E :=
 step_build1 hgd t e x ho hx hu hi hz h67 hl (h w.heap.size (w.alloc (.cells cs.toArray e)) rfl (Row.made w _ _) ((Below.refl _ _).alloc (Nat.le_refl _) _))
theorem step_itjoin (hgd : o.guard = none) (s x : Operand) (ho : o.op = .call { callee := .builtin .append, args := #[s, x], argTypes := #[23, 23] }) {base : Nat} {v xv : Value} {F : Nat → Prop} {l m : List Know.It} (hs : a.eval s = v) (hx : a.eval x = xv)
  (hown : w.ownsRow base 45 67 v l.length (l.flatMap itV)) (hr : Rws 67 itV w F xv m) (hl : ∀ x ∈ l, x.v.length = 65) (hm : ∀ x ∈ m, x.v.length = 65) (hn : l.length + m.length ≤ 1000) (hb : base ≤ w.heap.size)
  (h : ∀ (A : Option Addr) (n c : Nat) (w' : World), w'.ownsRow base 45 67 (.slice A n c) (l ++ m).length ((l ++ m).flatMap itV) → w.grownBy w' v.ownBlock → Near w v (.slice A n c) → K (a.put o.dst (.slice A n c)) w') : if Region.wanted o (yielded ops a.tmps) = true then Oper.wp Tryz.prog o a w K Q else E := by
 obtain ⟨i1, hi1, hy0, hy1, hy2⟩ := ver_parts itInfo
 refine step_near (f := itV) (k := 67) hgd s x 23 ho base 45 i1 (itA itZ) 536 Tryz.underlying23 hi1 hy0 hy1 hy2 itZ_size (by decide) hs hx hown hr (fun x hx => it_len (hm x hx)) (fun x _ => it_one x) (by unfold maxLen; omega) (by omega) hb ?_
 intro v' w' h1 h2 h3
 rw [← List.length_append, ← List.flatMap_append] at h1
 have hall : ∀ x ∈ l ++ m, (itV x).length = 67 := fun x hx => (List.mem_append.1 hx).elim (fun q => it_len (hl x q)) (fun q => it_len (hm x q))
 obtain ⟨A, c, e, -⟩ := (Rws.ofOwn (F := AnyB) h1 rfl hall (fun _ _ _ _ => trivial)).parts
 subst e
 exact h A _ c w' h1 h2 h3
theorem step_frjoin (hgd : o.guard = none) (s x : Operand) (ho : o.op = .call { callee := .builtin .append, args := #[s, x], argTypes := #[22, 22] }) {base : Nat} {v xv : Value} {F : Nat → Prop} {l m : List RFr} (hs : a.eval s = v) (hx : a.eval x = xv)
  (hown : w.ownsRow base 31 67 v l.length (l.flatMap rfV)) (hr : Rws 67 rfV w F xv m) (hl : ∀ x ∈ l, x.x.v.length = 65) (hm : ∀ x ∈ m, x.x.v.length = 65 ∧ ∀ u ∈ rfV x, u.oneCell' = true) (hn : l.length + m.length ≤ 1000) (hb : base ≤ w.heap.size)
  (h : ∀ (A : Option Addr) (n c : Nat) (w' : World), w'.ownsRow base 31 67 (.slice A n c) (l ++ m).length ((l ++ m).flatMap rfV) → w.grownBy w' v.ownBlock → Near w v (.slice A n c) → K (a.put o.dst (.slice A n c)) w') : if Region.wanted o (yielded ops a.tmps) = true then Oper.wp Tryz.prog o a w K Q else E := by
 obtain ⟨i1, hi1, hy0, hy1, hy2⟩ := ver_parts frInfo
 refine step_near (f := rfV) (k := 67) hgd s x 22 ho base 31 i1 (frA frZ) 568 Tryz.underlying22 hi1 hy0 hy1 hy2 frZ_size (by decide) hs hx hown hr (fun x hx => rf_len (hm x hx).1) (fun x hx => (hm x hx).2) (by unfold maxLen; omega) (by omega) hb ?_
 intro v' w' h1 h2 h3
 rw [← List.length_append, ← List.flatMap_append] at h1
 have hall : ∀ x ∈ l ++ m, (rfV x).length = 67 := fun x hx => (List.mem_append.1 hx).elim (fun q => rf_len (hl x q)) (fun q => rf_len (hm x q).1)
 obtain ⟨A, c, e, -⟩ := (Rws.ofOwn (F := AnyB) h1 rfl hall (fun _ _ _ _ => trivial)).parts
 subst e
 exact h A _ c w' h1 h2 h3
end
open Go.RowKit Go.Sort
theorem sub_mid (p cs s : List Value) : ∀ (j : Nat) (u : Value), cs[j]? = some u → (p ++ (cs ++ s))[p.length + j]? = some u := by
 intro j u h
 obtain ⟨hl, -⟩ := List.getElem?_eq_some_iff.1 h
 rw [List.getElem?_append_right (by omega), show p.length + j - p.length = j by omega, List.getElem?_append_left hl]
 exact h
theorem lies_mid {ty : TypeId} {w : World} {b : Nat} {p cs s : List Value} (h : w.rangeAt b 0 (p ++ (cs ++ s))) (hr : ∃ d, Tryz.prog.underlying ty = some d ∧ d.isRow = true) (hs : (Tryz.prog.info? ty).map (·.size) = some cs.length) {n : Nat} (hn : p.length = n) : Lies ty w b n cs :=
 ⟨fun j u hu => by
  have := h (p.length + j) u (sub_mid p cs s j u hu)
  rwa [Nat.zero_add, hn] at this, hr, hs⟩
theorem ask_one (i v : Ver.V) {c : Value} (hc : c.oneCell' = true) : ∀ u ∈ askV i v c, u.oneCell' = true := by
 intro u hu
 unfold askV at hu
 rcases List.mem_append.1 hu with h | h
 ·exact ver_one i u h
 ·rcases List.mem_append.1 h with h | h
  ·exact ver_one v u h
  ·rw [List.mem_singleton.1 h]; exact hc
end Go.Proofs.YtkcgmnhjofoeiaaGreat
