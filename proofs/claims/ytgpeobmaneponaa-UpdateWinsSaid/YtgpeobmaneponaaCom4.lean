import Derived.Test.YtgpeobmaneponaaCom2
import Derived.OrdersHeld
import Derived.Tactics
import Derived.Deep.RegionHeld
import Derived.Deep.QuietTactic
set_option maxRecDepth 100000
set_option linter.unusedVariables false
set_option linter.unusedSimpArgs false
set_option maxHeartbeats 12800000
namespace Go.Proofs.Ytgpeobmaneponaa
section
variable {P : Program} {Q : Exit → Act → World → Prop} {md : Region.Mode}
theorem wpAny_fuel {ops : Array Oper} : ∀ (k fuel : Nat) (listed : Array Bool) (a : Act) (w : World), wpAny P md ops Q fuel listed a w → wpAny P md ops Q (fuel + k) listed a w := by
 intro k fuel
 induction fuel with
 | zero =>
  intro listed a w h
  cases k with
  | zero => exact h
  | succ k =>
   rw [Nat.zero_add]
   exact ⟨fun _ => h.2, fun i hi => by rw [h.1] at hi; cases hi⟩
 | succ fuel ih =>
  intro listed a w h
  rw [show fuel + 1 + k = (fuel + k) + 1 by omega]
  exact ⟨h.1, fun i hi => wpOp_mono (fun a w h => ih _ a w h) (h.2 i hi)⟩
def Tail (P : Program) (md : Region.Mode) (ops : Array Oper) (Q : Exit → Act → World → Prop) (m : Nat) (listed : Array Bool) : Exit → Act → World → Prop
 | .normal, a, w => wpAny P md ops Q m listed a w
 | e, a, w => Q e a w
theorem Oper.wp_tail {o : Oper} {a : Act} {w : World} {K K' : Act → World → Prop} {Q' : Exit → Act → World → Prop} (h : ∀ a w, K a w → K' a w) (hQ : ∀ e a w, e ≠ .normal → Q' e a w → Q e a w)
  (hh : o.wp P a w K Q') : o.wp P a w K' Q := by
 unfold Oper.wp at *
 generalize (execOp a.eval o).run P w = r at *
 cases r with
 | ok n w' =>
  cases n <;> simp only [Oper.upon] at hh ⊢
  ·exact h _ _ hh
  ·exact h _ _ hh
  ·refine Calls.mono hh (fun e w'' he => ?_)
   cases e with
   | returned v => exact h _ _ he
   | panicked c => exact hQ _ _ _ (by simp) he
   | outgrown => exact he.imp fun a ha => ha.imp fun w hw => hQ _ _ _ (by simp) hw
  ·exact h _ _ hh
  ·exact Rows.mono hh (fun _ _ he => h _ _ he)
 | halt x w' =>
  cases x <;> simp only [Oper.upon] at hh ⊢
  exact hQ _ _ _ (by simp) hh
def waits (md : Region.Mode) (ops : Array Oper) : Nat → Nat → Nat → Bool
 | 0, _, _ => false
 | f + 1, i, j => match ops[i]? with
  | none => false
  | some o => (o.after.any fun e => Region.binds md e && e.on == j) || o.after.any fun e => Region.binds md e && waits md ops f e.on j
def Clos (md : Region.Mode) (ops : Array Oper) (L : Array Bool) : Prop := ∀ (i : Nat) (o : Oper), ops[i]? = some o → L.getD i false = true → ∀ e ∈ o.after, Region.binds md e = true → L.getD e.on false = true
theorem waits_listed {ops : Array Oper} {L : Array Bool} (hc : Clos md ops L) : ∀ (f i j : Nat), (∀ o, ops[i]? = some o → ∀ e ∈ o.after, Region.binds md e = true → L.getD e.on false = true) → waits md ops f i j = true → L.getD j false = true
 | 0, _, _, _, h => by cases h
 | f + 1, i, j, hi, h => by
  unfold waits at h
  cases ho : ops[i]? with
  | none => rw [ho] at h; cases h
  | some o =>
   rw [ho] at h
   simp only at h
   rw [Bool.or_eq_true] at h
   rcases h with h | h
   ·rw [← Array.any_toList, List.any_eq_true] at h
    obtain ⟨e, he, hb⟩ := h
    simp only [Bool.and_eq_true, beq_iff_eq] at hb
    have hl := hi o ho e (Array.mem_toList_iff.1 he) hb.1
    rwa [hb.2] at hl
   ·rw [← Array.any_toList, List.any_eq_true] at h
    obtain ⟨e, he, hb⟩ := h
    simp only [Bool.and_eq_true] at hb
    have hl := hi o ho e (Array.mem_toList_iff.1 he) hb.1
    exact waits_listed hc f e.on j (fun o' ho' => hc e.on o' ho' hl) hb.2
theorem getD_set_true (L : Array Bool) (i k : Nat) (h : L.getD k false = true) : (L.setIfInBounds i true).getD k false = true := by
 rw [Array.getD_eq_getD_getElem?] at h ⊢
 rw [Array.getElem?_setIfInBounds]
 split
 ·split
  ·rfl
  ·rename_i h1 h2
   subst h1
   rw [Array.getElem?_eq_none (by omega)] at h
   cases h
 ·exact h
theorem Clos.set {ops : Array Oper} {L : Array Bool} (hc : Clos md ops L) {i : Nat} (hi : ∀ o, ops[i]? = some o → ∀ e ∈ o.after, Region.binds md e = true → L.getD e.on false = true) : Clos md ops (L.setIfInBounds i true) := by
 intro k o ho hk e he hb
 refine getD_set_true L i e.on ?_
 by_cases hki : k = i
 ·subst hki
  exact hi o ho e he hb
 ·refine hc k o ho ?_ e he hb
  rw [Array.getD_eq_getD_getElem?] at hk ⊢
  rwa [Array.getElem?_setIfInBounds, if_neg (fun e => hki e.symm)] at hk
def tailOk (md : Region.Mode) (ops : Array Oper) (n : Nat) : Bool :=
 decide (n ≤ ops.size) && (List.range ops.size).all fun i => match ops[i]? with
  | none => true
  | some o => if i < n then (o.after.all fun e => !Region.binds md e || decide (e.on < i)) && (match o.guard with | none => true | some (j, _) => decide (j < n))
   else (o.after.any fun e => Region.binds md e && decide (n ≤ e.on) && decide (e.on < ops.size)) || (List.range n).all fun j => waits md ops n i j
theorem tailOk_spec {ops : Array Oper} {n : Nat} (h : tailOk md ops n = true) : n ≤ ops.size ∧
  (∀ i o, ops[i]? = some o → i < n → (∀ e ∈ o.after, Region.binds md e = true → e.on < i) ∧ ∀ j b, o.guard = some (j, b) → j < n) ∧
  (∀ i o, ops[i]? = some o → n ≤ i → (∃ e ∈ o.after, Region.binds md e = true ∧ n ≤ e.on ∧ e.on < ops.size) ∨ ∀ j, j < n → waits md ops n i j = true) := by
 unfold tailOk at h
 rw [Bool.and_eq_true, List.all_eq_true] at h
 obtain ⟨h1, h2⟩ := h
 refine ⟨of_decide_eq_true h1, fun i o ho hi => ?_, fun i o ho hi => ?_⟩
 ·have hlt : i < ops.size := (Array.getElem?_eq_some_iff.1 ho).1
  have := h2 i (List.mem_range.2 hlt)
  simp only [ho, if_pos hi, Bool.and_eq_true] at this
  obtain ⟨ha, hg⟩ := this
  refine ⟨fun e he hb => ?_, fun j b hjb => ?_⟩
  ·have := Array.all_eq_true_iff_forall_mem.1 ha e he
   simp only [hb, Bool.not_true, Bool.false_or] at this
   exact of_decide_eq_true this
  ·rw [hjb] at hg
   exact of_decide_eq_true hg
 ·have hlt : i < ops.size := (Array.getElem?_eq_some_iff.1 ho).1
  have := h2 i (List.mem_range.2 hlt)
  simp only [ho, if_neg (Nat.not_lt.2 hi), Bool.or_eq_true] at this
  rcases this with this | this
  ·rw [← Array.any_toList, List.any_eq_true] at this
   obtain ⟨e, he, hb⟩ := this
   simp only [Bool.and_eq_true, decide_eq_true_eq] at hb
   exact Or.inl ⟨e, Array.mem_toList_iff.1 he, hb.1.1, hb.1.2, hb.2⟩
  refine Or.inr (fun j hj => ?_)
  exact List.all_eq_true.1 this j (List.mem_range.2 hj)
theorem mask_get (l : Array Bool) (m : Nat) (j : Nat) (d : Bool) (h : j < l.size) : (l ++ Array.replicate m false).getD j d = l.getD j d := by
 simp only [Array.getD_eq_getD_getElem?]
 rw [Array.getElem?_append_left h]
theorem mask_set (l : Array Bool) (m : Nat) (j : Nat) (h : j < l.size) : (l ++ Array.replicate m false).setIfInBounds j true = l.setIfInBounds j true ++ Array.replicate m false := by
 rw [Array.setIfInBounds_append, if_pos h]
theorem take_get {ops : Array Oper} {n i : Nat} (hi : i < n) : (ops.extract 0 n)[i]? = ops[i]? := by
 rw [Array.getElem?_extract]
 by_cases h : i < ops.size
 ·rw [if_pos (by omega), Nat.zero_add]
 ·rw [if_neg (by omega), Array.getElem?_eq_none (by omega)]
theorem wpAny_tail {ops : Array Oper} {n : Nat} (hok : tailOk md ops n = true) : ∀ (fuel : Nat) (listed : Array Bool) (a : Act) (w : World), listed.size = n → Clos md ops (listed ++ Array.replicate (ops.size - n) false) →
  wpAny P md (ops.extract 0 n) (Tail P md ops Q (ops.size - n) (Array.replicate n true ++ Array.replicate (ops.size - n) false)) fuel listed a w →
  wpAny P md ops Q (fuel + (ops.size - n)) (listed ++ Array.replicate (ops.size - n) false) a w := by
 obtain ⟨hn, hhd, htl⟩ := tailOk_spec hok
 have hsz : (ops.extract 0 n).size = n := by simp; omega
 -- what may come up of the first ones is what may come up of all
 have ready : ∀ listed : Array Bool, listed.size = n → ∀ i, i < n → (i ∈ Region.ready md ops (listed ++ Array.replicate (ops.size - n) false) ↔ i ∈ Region.ready md (ops.extract 0 n) listed) := by
  intro listed hl i hi
  rw [mem_ready, mem_ready, take_get hi, mask_get _ _ _ _ (by omega)]
  constructor
  ·rintro ⟨h0, o, ho, ha⟩
   refine ⟨h0, o, ho, fun e he hb => ?_⟩
   have := ha e he hb
   rwa [mask_get _ _ _ _ (by have := (hhd i o ho hi).1 e he hb; omega)] at this
  ·rintro ⟨h0, o, ho, ha⟩
   refine ⟨h0, o, ho, fun e he hb => ?_⟩
   rw [mask_get _ _ _ _ (by have := (hhd i o ho hi).1 e he hb; omega)]
   exact ha e he hb
 -- if none may come up, all have
 have full : ∀ listed : Array Bool, listed.size = n → Region.ready md (ops.extract 0 n) listed = [] → ∀ i, i < n → listed.getD i true = true := by
  intro listed hl hr i
  induction i using Nat.strongRecOn with
  | _ i ih =>
   intro hi
   cases hv : listed.getD i true with
   | true => rfl
   | false =>
    obtain ⟨o, ho⟩ : ∃ o, ops[i]? = some o := ⟨_, Array.getElem?_eq_getElem (by omega)⟩
    have : i ∈ Region.ready md (ops.extract 0 n) listed := mem_ready.2 ⟨hv, o, by rw [take_get hi]; exact ho, fun e he hb => by
     have hlt := (hhd i o ho hi).1 e he hb
     have := ih e.on hlt (by omega)
     rw [Array.getD_eq_getD_getElem?] at this ⊢
     rw [Array.getElem?_eq_getElem (by omega)] at this ⊢
     exact this⟩
    rw [hr] at this; cases this
 -- while one of the first ones may come up, none of the last ones may
 have late : ∀ listed : Array Bool, listed.size = n → Clos md ops (listed ++ Array.replicate (ops.size - n) false) → ∀ i, i ∈ Region.ready md ops (listed ++ Array.replicate (ops.size - n) false) → n ≤ i → Region.ready md (ops.extract 0 n) listed = [] := by
  intro listed hl hcl i hi hni
  obtain ⟨h0, o, ho, ha⟩ := mem_ready.1 hi
  rw [List.eq_nil_iff_forall_not_mem]
  intro j hj
  obtain ⟨hj0, oj, hoj, _⟩ := mem_ready.1 hj
  have hjn : j < n := by have := (Array.getElem?_eq_some_iff.1 hoj).1; omega
  rcases htl i o ho hni with ⟨e, he, hb, h1, h2⟩ | htl
  ·have := ha e he hb
   rw [Array.getD_eq_getD_getElem?, Array.getElem?_append_right (by omega), Array.getElem?_replicate, if_pos (by omega)] at this
   cases this
  have := waits_listed hcl n i j (fun o' ho' => by rw [ho] at ho'; injection ho' with ho'; subst ho'; exact ha) (htl j hjn)
  rw [mask_get _ _ _ _ (by omega), Array.getD_eq_getD_getElem?, Array.getElem?_eq_getElem (by omega)] at this
  rw [Array.getD_eq_getD_getElem?, Array.getElem?_eq_getElem (by omega)] at hj0
  simp only [Option.getD_some] at this hj0
  rw [this] at hj0; cases hj0
 have allSet : ∀ listed : Array Bool, listed.size = n → Region.ready md (ops.extract 0 n) listed = [] → listed = Array.replicate n true := by
  intro listed hl hr
  apply Array.ext
  ·simp [hl]
  ·intro i h1 h2
   have := full listed hl hr i (by omega)
   rw [Array.getD_eq_getD_getElem?, Array.getElem?_eq_getElem h1] at this
   simpa using this
 intro fuel
 induction fuel with
 | zero =>
  intro listed a w hl hcl h
  rw [Nat.zero_add, allSet listed hl h.1]
  exact h.2
 | succ fuel ih =>
  intro listed a w hl hcl h
  by_cases hr : Region.ready md (ops.extract 0 n) listed = []
  ·rw [allSet listed hl hr, Nat.add_comm]
   exact wpAny_fuel _ _ _ _ _ (h.1 hr)
  ·rw [show fuel + 1 + (ops.size - n) = (fuel + (ops.size - n)) + 1 by omega]
   have hin : ∀ i, i ∈ Region.ready md ops (listed ++ Array.replicate (ops.size - n) false) → i < n := fun i hi => by
    rcases Nat.lt_or_ge i n with hlt | hge
    ·exact hlt
    ·exact absurd (late listed hl hcl i hi hge) hr
   refine ⟨fun h0 => ?_, fun i hi => ?_⟩
   ·exfalso
    obtain ⟨i, hi⟩ := List.exists_mem_of_ne_nil _ hr
    have hlt : i < n := by
     obtain ⟨_, o, ho, _⟩ := mem_ready.1 hi
     have := (Array.getElem?_eq_some_iff.1 ho).1
     omega
    have := (ready listed hl i hlt).2 hi
    rw [h0] at this; cases this
   ·have hlt := hin i hi
    have h2 := h.2 i ((ready listed hl i hlt).1 hi)
    obtain ⟨o, ho⟩ : ∃ o, ops[i]? = some o := ⟨_, Array.getElem?_eq_getElem (by omega)⟩
    have hK : ∀ a w, wpAny P md (ops.extract 0 n) (Tail P md ops Q (ops.size - n) (Array.replicate n true ++ Array.replicate (ops.size - n) false)) fuel (listed.setIfInBounds i true) a w →
      wpAny P md ops Q (fuel + (ops.size - n)) ((listed ++ Array.replicate (ops.size - n) false).setIfInBounds i true) a w := fun a w hw => by
     rw [mask_set _ _ _ (by omega)]
     exact ih _ a w (by simpa using hl) (by rw [← mask_set _ _ _ (by omega)]; exact hcl.set (fun o' ho' => by obtain ⟨_, o2, ho2, ha2⟩ := mem_ready.1 hi; rw [ho2] at ho'; injection ho' with ho'; subst ho'; exact ha2)) hw
    have hy : Region.wanted o (yielded ops a.tmps) = Region.wanted o (yielded (ops.extract 0 n) a.tmps) := by
     unfold Region.wanted
     cases hg : o.guard with
     | none => rfl
     | some g =>
      obtain ⟨j, b⟩ := g
      have hj := (hhd i o ho hlt).2 j b hg
      simp only [yielded, take_get hj]
    unfold wpOp at h2 ⊢
    rw [take_get hlt] at h2
    simp only [ho] at h2 ⊢
    rw [hy]
    split
    ·rename_i hw
     simp only [hw, if_true] at h2
     rcases h2 with h2 | ⟨h2, a', w', h3⟩
     ·exact .inl (Oper.wp_tail hK (fun e a w hne he => by cases e <;> first | exact absurd rfl hne | exact he) h2)
     ·exact .inr ⟨h2, a', w', h3⟩
    ·rename_i hw
     simp only [hw] at h2
     exact hK _ _ h2
theorem wp_region_tail {ops hd : Array Oper} {id n : Nat} {a : Act} {w : World} {S : World → Prop} (hm : P.follows .mixedOrders = true) (hok : tailOk .any ops n = true) (hhd : ops.extract 0 n = hd) (hS : S w.drew)
  (h : S w.drew → wpAnyH P .any hd (Tail P .any ops Q (ops.size - n) (Array.replicate n true ++ Array.replicate (ops.size - n) false)) S n (Array.replicate n false) a w.drew) : (Code.region id ops true).wp P Q a w := by
 subst hhd
 refine wp_region_any hm ?_
 have h1 := wpAny_tail hok n (Array.replicate n false) a w.drew (by simp) (fun i o _ hi => by
  rw [Array.getD_eq_getD_getElem?, Array.replicate_append_replicate, Array.getElem?_replicate] at hi
  split at hi <;> cases hi) (wpAny_of_held _ _ _ _ (h hS))
 have hn := (tailOk_spec hok).1
 have e1 : n + (ops.size - n) = ops.size := by omega
 have e2 : Array.replicate n false ++ Array.replicate (ops.size - n) false = Array.replicate ops.size false := by
  rw [Array.replicate_append_replicate, e1]
 rw [e1, e2] at h1
 exact h1
end
theorem wpAnyH_tk {P : Program} {md : Region.Mode} {ops : Array Oper} {Q : Exit → Act → World → Prop} {S : World → Prop} {i : Nat} {oi : Oper} {v : Value} {fuel : Nat} {listed : Array Bool} {a : Act} {w : World} (hi : ops[i]? = some oi)
    (hy : YieldsIf P ops S oi v a) (hS : S w) (h : wpAnyH P md ops Q S fuel (listed.setIfInBounds i true) (a.put oi.dst v) w)
    (hs : Region.noSelect ops = true := by kernel_rfl) (hf : Region.free md ops listed i = true := by kernel_rfl) (hr : (Region.ready md ops listed).contains i = true := by kernel_rfl) (hQ : ∀ c a w, Q (.panic c) (a.put oi.dst v) w → Q (.panic c) a w := by exact fun _ _ _ h => h) : wpAnyH P md ops Q S (fuel + 1) listed a w := wpAnyH_take hi hs hf hr hQ hy hS h
theorem wpAnyH_td {P : Program} {md : Region.Mode} {ops : Array Oper} {Q : Exit → Act → World → Prop} {S : World → Prop} {i : Nat} {oi : Oper} {v : Value} {fuel : Nat} {listed : Array Bool} {a : Act} {w : World} (hi : ops[i]? = some oi)
    (h : wpAnyH P md ops Q S fuel (listed.setIfInBounds i true) (a.put oi.dst v) w)
    (hs : Region.noSelect ops = true := by kernel_rfl) (hf : Region.free md ops listed i = true := by kernel_rfl) (hr : (Region.ready md ops listed).contains i = true := by kernel_rfl) (hQ : ∀ c a w, Q (.panic c) (a.put oi.dst v) w → Q (.panic c) a w := by exact fun _ _ _ h => h)
    (hw : Region.wanted oi (yielded ops a.tmps) = true := by rfl) (hv : ∀ w, S w → (execOp a.eval oi).run P w = .ok (.value v) w := by intro w hSw; go_simp; try with_reducible rfl) (hS : S w := by assumption) : wpAnyH P md ops Q S (fuel + 1) listed a w := wpAnyH_take hi hs hf hr hQ (Or.inl ⟨hw, hv⟩) hS h
end Go.Proofs.Ytgpeobmaneponaa
namespace Go.Proofs.Ytgpeobmaneponaa
open Go.RowKit Go.Sort
theorem laid_one (w : World) (o : Obj) : Laid w (w.alloc o) := Laid.new w o
theorem laid_two (w : World) (o p : Obj) : Laid w ((w.alloc o).alloc p) := (Laid.new w o).trans (Laid.new _ p)
theorem ref_vright (w : World) (v : Ver.V) : Calls Try.prog 29 #[verA v] w fun e w' => e = .returned (.bool (decide (Ver.Right v))) ∧ Laid w w' := by
 have L := Lib.hid (laid_one w)
 have e : decide (Ver.Right v) = (decide ((1 : Int) ≤ v.by_) && (decide (v.by_ ≤ 64) && decide ((1 : Int) ≤ v.n))) := by rw [Bool.eq_iff_iff, decide_eq_true_iff]; simp [Ver.Right]
 have E := Lib.hid e
 clear e
 obtain ⟨x, y⟩ := v
 simp only at E ⊢
 by_cases h1 : (1 : Int) ≤ x
 ·by_cases h2 : x ≤ 64
  ·go_enter Try.func29, Try.ntmps29
   go_wp2_with fail
   go_ret
   exact ⟨by rw [E.out]; first | (simp [h1, h2]; done) | (simp [h1, h2]; omega), L.out _⟩
  ·go_enter Try.func29, Try.ntmps29
   go_wp2_with fail
   go_ret
   exact ⟨by rw [E.out]; first | (simp [h1, h2]; done) | (simp [h1, h2]; omega), L.out _⟩
 ·go_enter Try.func29, Try.ntmps29
  go_wp2_with fail
  go_ret
  exact ⟨by rw [E.out]; first | (simp [h1]; done) | (simp [h1]; omega), L.out _⟩
theorem before_alt (x y x' y' : Int) : decide (Ver.Before ⟨x, y⟩ ⟨x', y'⟩) = (decide (x < x') || (decide (x = x') && decide (y < y'))) := by rw [Bool.eq_iff_iff, decide_eq_true_iff]; simp [Ver.Before]
theorem ref_vbefore (w : World) (a b : Ver.V) : Calls Try.prog 43 #[verA a, verA b] w fun e w' => e = .returned (.bool (decide (Ver.Before a b))) ∧ Laid w w' := by
 have L := Lib.hid (laid_two w)
 obtain ⟨x, y⟩ := a
 obtain ⟨x', y'⟩ := b
 have E := Lib.hid (before_alt x y x' y')
 by_cases h1 : x < x'
 ·go_enter Try.func43, Try.ntmps43
  go_wp2_with fail
  go_ret
  exact ⟨by rw [E.out]; first | (simp [h1]; done) | (simp [h1]; omega), L.out _ _⟩
 ·by_cases h2 : x = x'
  ·subst h2
   go_enter Try.func43, Try.ntmps43
   go_wp2_with fail
   go_ret
   exact ⟨by rw [E.out]; first | (simp [h1]; done) | (simp [h1]; omega), L.out _ _⟩
  ·go_enter Try.func43, Try.ntmps43
   go_wp2_with fail
   go_ret
   exact ⟨by rw [E.out]; first | (simp [h1, h2]; done) | (simp [h1, h2]; omega), L.out _ _⟩
theorem ref_older (w : World) (a b : Ver.S) : Calls Try.prog 26 #[stpA a, stpA b] w fun e w' => e = .returned (.bool (decide (Ver.Older a b))) ∧ Laid w w' := by
 have L := Lib.hid (laid_two w)
 have R := Lib.hid (fun W => ref_vbefore W a.v b.v)
 obtain ⟨t, x, y⟩ := a
 obtain ⟨t', x', y'⟩ := b
 have E : Hid (decide (Ver.Older ⟨t, x, y⟩ ⟨t', x', y'⟩) = if t = t' then decide (Ver.Before ⟨x, y⟩ ⟨x', y'⟩) else decide (t < t')) := Lib.hid (by
  rw [Bool.eq_iff_iff, decide_eq_true_iff]
  unfold Ver.Older
  by_cases h : t = t'
  ·simp [h]
  ·simp [h])
 simp only at E R ⊢
 by_cases h : t = t'
 ·subst h
  have E : Hid (decide (Ver.Older ⟨t, x, y⟩ ⟨t, x', y'⟩) = decide (Ver.Before ⟨x, y⟩ ⟨x', y'⟩)) := Lib.hid (by have := E.out; rwa [if_pos rfl] at this)
  generalize decide (Ver.Before ⟨x, y⟩ ⟨x', y'⟩) = r at *
  go_enter Try.func26, Try.ntmps26
  go_wp2_with fail
  refine (R.out _).mono ?_
  rintro e w1 ⟨rfl, hl⟩
  have HL := Lib.hid ((L.out _ _).trans hl)
  clear hl
  go_wp2_with fail
  go_ret
  exact ⟨by rw [E.out]; rfl, HL.out⟩
 ·have E : Hid (decide (Ver.Older ⟨t, x, y⟩ ⟨t', x', y'⟩) = decide (t < t')) := Lib.hid (by have := E.out; rwa [if_neg h] at this)
  go_enter Try.func26, Try.ntmps26
  go_wp2_with fail
  go_ret
  exact ⟨by rw [E.out]; rfl, L.out _ _⟩
end Go.Proofs.Ytgpeobmaneponaa
namespace Go.Proofs.Ytgpeobmaneponaa
open Go.RowKit
namespace Pth
def Cut (s : Tx) (D : List Tx) (p i : Nat) : Prop := p ≤ i ∧ i ≤ s.length ∧ split s = D ++ splitA ((s.take i).drop p) (s.drop i) ∧ D.length ≤ i
theorem cut_start (s : Tx) : Cut s [] 0 0 := ⟨Nat.le_refl _, Nat.zero_le _, by simp [split], Nat.le_refl _⟩
theorem cut_end {s : Tx} {D : List Tx} {p : Nat} (h : Cut s D p s.length) : split s = D ++ [s.drop p] := by
 have := h.2.2.1
 rw [List.take_length, List.drop_length] at this
 exact this
theorem cut_next {s : Tx} {D : List Tx} {p i : Nat} {c : UInt8} (h : Cut s D p i) (hc : s[i]? = some c) : if c.toNat = 47 then Cut s (D ++ [(s.take i).drop p]) (i + 1) (i + 1) else Cut s D p (i + 1) := by
 obtain ⟨h1, h2, h3, h4⟩ := h
 obtain ⟨hl, he⟩ := List.getElem?_eq_some_iff.1 hc
 have hd : s.drop i = c :: s.drop (i + 1) := by rw [List.drop_eq_getElem_cons hl, he]
 rw [hd] at h3
 unfold splitA at h3
 split
 ·rename_i h7
  rw [if_pos h7] at h3
  refine ⟨Nat.le_refl _, hl, ?_, by rw [List.length_append]; simp; omega⟩
  rw [h3, List.append_assoc]
  congr 2
  have : (s.take (i + 1)).drop (i + 1) = [] := List.drop_of_length_le (by rw [List.length_take]; omega)
  rw [this]
  rfl
 ·rename_i h7
  rw [if_neg h7] at h3
  refine ⟨by omega, hl, ?_, by omega⟩
  rw [h3]
  congr 2
  rw [List.take_succ_eq_append_getElem hl, he, List.drop_append_of_le_length (by rw [List.length_take]; omega)]
end Pth
theorem ref_split (s : List UInt8) (w : World) (hs : s.length ≤ 100000) :
  Calls Try.prog 44 #[.string (mk s), .int .u8 47] w fun e w' => ∃ v, e = .returned v ∧ Cells w' (NewIn w w') v (texts (Pth.split s)) ∧ Below w.heap.size w w' := by
 obtain ⟨i0, hi, hz0, hz1, hz2⟩ := info_parts strInfo
 have ls : (mk s).size = s.length := mk_len s
 have hS : ((mk s).size : Int) ≤ 100000 := by rw [ls]; omega
 have Ls := Lib.hid ls
 clear ls
 generalize hxs : mk s = xs at *
 have Hxs := Lib.hid hxs
 go_enter Try.func44, Try.ntmps44
 go_wp2_with fail
 go_loopw [5, 6, 7] (fun o p i wr => ∃ (D : List (List UInt8)) (at_ k : Nat), p = .int .i64 (at_ : Int) ∧ i = .int .i64 (k : Int) ∧ Pth.Cut s D at_ k ∧ TextsOwn w D o wr) (fun _ _ i _ => s.length - (intOf i).toNat)
 case atStart => exact ⟨[], 0, 0, rfl, rfl, Pth.cut_start s, texts_start w⟩
 case round =>
  obtain ⟨D, p, k, rfl, rfl, hcut, hown⟩ := hrel
  have hk0 : (0 : Int) ≤ (k : Int) := by omega
  have hp0 : (0 : Int) ≤ (p : Int) := by omega
  have hpk : (p : Int) ≤ (k : Int) := by have := hcut.1; omega
  have hks : (k : Int) ≤ (xs.size : Int) := by have := hcut.2.1; have := Ls.out; omega
  have hDl : Hid (D.length ≤ 100000) := Lib.hid (by have := hcut.2.2.2; have := hcut.2.1; omega)
  by_cases hlt : k < s.length
  ·have hk1 : (k : Int) < (xs.size : Int) := by have := Ls.out; omega
   obtain ⟨c, hc, ic⟩ := idx xs k (by have := Ls.out; omega)
   have hsc : s[k]? = some c := by rw [← hc, ← Hxs.out, mk_data]
   have hnext := Pth.cut_next hcut hsc
   by_cases h7 : c.toNat = 47
   ·rw [if_pos h7] at hnext
    have hb1 : ((c.toNat : Int) == 47) = true := by rw [h7]; rfl
    have hext : xs.extract p k = mk ((s.take k).drop p) := by
     rw [← Hxs.out]
     exact bytes_ext (by rw [Lib.extract_data, mk_data, mk_data, List.take_drop, Nat.add_sub_cancel' (by omega)])
    have Hnext := Lib.hid hnext
    have Hown := Lib.hid hown
    have hz := hown.2.size
    have hown1 := hown.1
    clear hc hsc hnext hcut hown h7
    generalize c.toNat = cn at *
    generalize hx1 : mk ((s.take k).drop p) = x1 at *
    have hc1 : ∀ {w1 : World} j u, [Value.string x1][j]? = some u → (w1.alloc (.cells #[.string x1] 9)).cell? ((⟨w1.heap.size, 0, none⟩ : Addr).add j) = some u := by
     intro w1 j u hj
     match j, hj with
     | 0, hj => simp at hj; subst hj; simp [Addr.add]
    go_wp2_with (at_builtin; refine wpList_append_own _ rfl _ _ 74 rfl w.heap.size 9 i0 (.string ⟨#[]⟩) 1 16 Try.underlying74 hi hz0 hz1 hz2 rfl (by decide) _ _ _ rfl (hown1.alloc _) ⟨wr.heap.size, 0, none⟩ 1 1 [.string x1] rfl rfl hc1 ?c2 ?c3 ?c4 ?c5 ?_)
    case c2 => first | rfl | (intro u hu; simp at hu; subst hu; rfl)
    case c3 => have := hDl.out; unfold maxLen; omega
    case c4 => have := hDl.out; omega
    case c5 => first | omega | (simp; omega)
    intro v' w2 hown' hgrow' _
    have hnew := texts_more Hown.out (x := (s.take k).drop p) (v' := v') (by rw [hx1]; simpa using hown') hgrow'
    clear hown' hgrow' hown1
    go_wp2
    go_roundw
    case rel => exact ⟨_, k + 1, k + 1, by go_num, by go_num, Hnext.out, hnew⟩
    case measure => simp [intOf]; omega
   ·rw [if_neg h7] at hnext
    have hb1 : ((c.toNat : Int) == 47) = false := by rw [beq_eq_false_iff_ne]; omega
    have Hnext := Lib.hid hnext
    have Hown := Lib.hid hown
    clear hc hsc hnext hcut hown h7
    generalize c.toNat = cn at *
    go_wp2_with fail
    refine ⟨⟨D, p, k + 1, rfl, rfl, Hnext.out, Hown.out⟩, ?_⟩
    show s.length - ((k : Int) + 1).toNat < s.length - (k : Int).toNat
    omega
  ·obtain rfl : k = s.length := by have := hcut.2.1; omega
   have hfin := Lib.hid (Pth.cut_end hcut)
   have hk1 : ¬ (s.length : Int) < (xs.size : Int) := by have := Ls.out; omega
   have hext : xs.extract p xs.size = mk (s.drop p) := by
    rw [← Hxs.out]
    exact bytes_ext (by rw [Lib.extract_data, mk_data, mk_len, mk_data, ← List.length_drop, List.take_length])
   have hps : (p : Int) ≤ (xs.size : Int) := by omega
   have Hown := Lib.hid hown
   have hz := hown.2.size
   have hown1 := hown.1
   clear hcut hown
   generalize hx1 : mk (s.drop p) = x1 at *
   have hc1 : ∀ {w1 : World} j u, [Value.string x1][j]? = some u → (w1.alloc (.cells #[.string x1] 9)).cell? ((⟨w1.heap.size, 0, none⟩ : Addr).add j) = some u := by
    intro w1 j u hj
    match j, hj with
    | 0, hj => simp at hj; subst hj; simp [Addr.add]
   go_wp2_with (at_builtin; refine wpList_append_own _ rfl _ _ 74 rfl w.heap.size 9 i0 (.string ⟨#[]⟩) 1 16 Try.underlying74 hi hz0 hz1 hz2 rfl (by decide) _ _ _ rfl (hown1.alloc _) ⟨wr.heap.size, 0, none⟩ 1 1 [.string x1] rfl rfl hc1 ?c2 ?c3 ?c4 ?c5 ?_)
   case c2 => first | rfl | (intro u hu; simp at hu; subst hu; rfl)
   case c3 => have := hDl.out; unfold maxLen; omega
   case c4 => have := hDl.out; omega
   case c5 => first | omega | (simp; omega)
   intro v' w2 hown' hgrow' _
   have hnew := texts_more Hown.out (x := s.drop p) (v' := v') (by rw [hx1]; simpa using hown') hgrow'
   clear hown' hgrow' hown1
   go_wp2
   go_ret
   exact ⟨v', rfl, by rw [hfin.out]; exact hnew.cells, hnew.2⟩
end Go.Proofs.Ytgpeobmaneponaa
namespace Go.Proofs.Ytgpeobmaneponaa
open Go.RowKit
theorem char_cases (n : Nat) (h : n < 256) : n = 46 ∨ (97 ≤ n ∧ n ≤ 122) ∨ (48 ≤ n ∧ n ≤ 57) ∨ n = 45 ∨ n = 95 ∨ n < 45 ∨ n = 47 ∨ (57 < n ∧ n < 95) ∨ n = 96 ∨ 122 < n := by omega
theorem ref_name (s : List UInt8) (w : World) (hs : s.length ≤ 100000) :
    Calls Try.prog 45 #[.string (mk s)] w fun e w' => e = .returned (.bool (decide (Pth.Name s))) ∧ Below w.heap.size w w' := by
  have ls : (mk s).size = s.length := mk_len s
  have hS : ((mk s).size : Int) ≤ 100000 := by rw [ls]; omega
  have Ls := Lib.hid ls
  clear ls
  generalize hxs : mk s = xs at *
  have Hxs := Lib.hid hxs
  go_enter Try.func45, Try.ntmps45
  go_wp2_with fail
  go_loopw [3, 4] (fun d i wr => ∃ k : Nat, k ≤ s.length ∧ i = .int .i64 (k : Int) ∧ d = .int .i64 (Pth.dots (s.take k) : Int) ∧ (∀ c ∈ s.take k, Pth.okChar c = true) ∧ Below w.heap.size w wr) (fun _ i _ => s.length - (intOf i).toNat)
  case atStart => exact ⟨0, Nat.zero_le _, rfl, rfl, by simp, Below.refl _ _⟩
  case round =>
    obtain ⟨k, hk, rfl, rfl, hall, hbel⟩ := hrel
    have hk0 : (0 : Int) ≤ (k : Int) := by omega
    have hdk : Pth.dots (s.take k) ≤ k := by
      have := List.countP_le_length (p := fun c : UInt8 => c.toNat == 46) (l := s.take k)
      rw [List.length_take] at this
      unfold Pth.dots; omega
    have Hall := Lib.hid hall
    have Hbel := Lib.hid hbel
    clear hall hbel
    by_cases hlt : k < s.length
    · have hk1 : (k : Int) < (xs.size : Int) := by have := Ls.out; omega
      obtain ⟨c, hc, ic⟩ := idx xs k (by have := Ls.out; omega)
      have hsc : s[k]? = some c := by rw [← hc, ← Hxs.out, mk_data]
      obtain ⟨hl, he⟩ := List.getElem?_eq_some_iff.1 hsc
      have htk : s.take (k + 1) = s.take k ++ [c] := by rw [List.take_succ_eq_append_getElem hl, he]
      have hdn : Hid (Pth.dots (s.take (k + 1)) = Pth.dots (s.take k) + (if c.toNat = 46 then 1 else 0)) := Lib.hid (by
        rw [htk]
        unfold Pth.dots
        rw [List.countP_append, List.countP_singleton]
        by_cases h : c.toNat = 46
        · rw [if_pos h, h]; rfl
        · rw [if_neg h, if_neg (by simpa using h)])
      have hgood : Hid (Pth.okChar c = true → ∀ x ∈ s.take (k + 1), Pth.okChar x = true) := Lib.hid (fun h x hx => by
        rw [htk, List.mem_append] at hx
        rcases hx with hx | hx
        · exact Hall.out x hx
        · rw [List.mem_singleton.1 hx]; exact h)
      have hbad : Hid (Pth.okChar c = false → decide (Pth.Name s) = false) := Lib.hid (fun h => decide_eq_false (fun m => by
        have := m.1 c (List.mem_of_getElem? hsc)
        rw [h] at this; cases this))
      have hok : Hid (Pth.okChar c = ((decide (97 ≤ c.toNat) && decide (c.toNat ≤ 122)) || (decide (48 ≤ c.toNat) && decide (c.toNat ≤ 57)) || c.toNat == 45 || c.toNat == 95 || c.toNat == 46)) := Lib.hid rfl
      have hc256 := c.toNat_lt
      have hd9 : ((Pth.dots (s.take k) : Nat) : Int) ≤ 100000 := by omega
      clear hc hsc htk he hl hdk
      generalize c.toNat = cn at *
      generalize Pth.dots (s.take k) = dk at *
      rcases char_cases cn hc256 with h | h | h | h | h | h | h | h | h | h
      all_goals
        first | (have e46 : ((cn : Int) == 46) = true := by rw [beq_iff_eq]; omega) | (have e46 : ((cn : Int) == 46) = false := by rw [beq_eq_false_iff_ne]; omega)
        first | (have d97 : decide ((97 : Int) ≤ (cn : Int)) = true := decide_eq_true (by omega)) | (have d97 : decide ((97 : Int) ≤ (cn : Int)) = false := decide_eq_false (by omega))
        first | (have d122 : decide ((cn : Int) ≤ 122) = true := decide_eq_true (by omega)) | (have d122 : decide ((cn : Int) ≤ 122) = false := decide_eq_false (by omega))
        first | (have d48 : decide ((48 : Int) ≤ (cn : Int)) = true := decide_eq_true (by omega)) | (have d48 : decide ((48 : Int) ≤ (cn : Int)) = false := decide_eq_false (by omega))
        first | (have d57 : decide ((cn : Int) ≤ 57) = true := decide_eq_true (by omega)) | (have d57 : decide ((cn : Int) ≤ 57) = false := decide_eq_false (by omega))
        first | (have e45 : ((cn : Int) == 45) = true := by rw [beq_iff_eq]; omega) | (have e45 : ((cn : Int) == 45) = false := by rw [beq_eq_false_iff_ne]; omega)
        first | (have e95 : ((cn : Int) == 95) = true := by rw [beq_iff_eq]; omega) | (have e95 : ((cn : Int) == 95) = false := by rw [beq_eq_false_iff_ne]; omega)
        first
          | (have hT : Hid (Pth.okChar c = true) := Lib.hid (by rw [hok.out]; simp; omega))
          | (have hF : Hid (Pth.okChar c = false) := Lib.hid (by rw [hok.out]; simp; omega))
        have HH := Lib.hid h
        clear h
        go_wp2_with fail
        first
          | (go_ret
             exact ⟨by rw [hbad.out hF.out]; rfl, Hbel.out⟩)
          | (refine ⟨⟨k + 1, by omega, rfl, ?_, hgood.out hT.out, Hbel.out⟩, ?_⟩
             · rw [hdn.out]
               first
                 | (rw [if_pos (by have := HH.out; omega)]; rfl)
                 | (rw [if_neg (by have := HH.out; omega)]; rfl)
             · show s.length - ((k : Int) + 1).toNat < s.length - (k : Int).toNat
               omega)
    · obtain rfl : k = s.length := by omega
      rw [List.take_length] at hdk ⊢
      have Hall2 := Lib.hid (show ∀ c ∈ s, Pth.okChar c = true from by have := Hall.out; rw [List.take_length] at this; exact this)
      have hk1 : ¬ (s.length : Int) < (xs.size : Int) := by have := Ls.out; omega
      have hcase : (decide ((1 : Int) ≤ (xs.size : Int)) = false ∧ Hid (decide (Pth.Name s) = false)) ∨ (decide ((1 : Int) ≤ (xs.size : Int)) = true ∧ decide ((xs.size : Int) ≤ 12) = false ∧ Hid (decide (Pth.Name s) = false)) ∨
          (decide ((1 : Int) ≤ (xs.size : Int)) = true ∧ decide ((xs.size : Int) ≤ 12) = true ∧ decide (Pth.dots s < xs.size) = false ∧ Hid (decide (Pth.Name s) = false)) ∨ (decide ((1 : Int) ≤ (xs.size : Int)) = true ∧ decide ((xs.size : Int) ≤ 12) = true ∧ decide (Pth.dots s < xs.size) = true ∧ Hid (decide (Pth.Name s) = true)) := by
        have e := Ls.out
        by_cases h1 : 1 ≤ s.length
        · by_cases h2 : s.length ≤ 12
          · by_cases h3 : Pth.dots s < s.length
            · exact Or.inr (Or.inr (Or.inr ⟨decide_eq_true (by omega), decide_eq_true (by omega), decide_eq_true (by omega), Lib.hid (decide_eq_true ⟨Hall2.out, h1, h2, h3⟩)⟩))
            · exact Or.inr (Or.inr (Or.inl ⟨decide_eq_true (by omega), decide_eq_true (by omega), decide_eq_false (by omega), Lib.hid (decide_eq_false (fun m => h3 m.2.2.2))⟩))
          · exact Or.inr (Or.inl ⟨decide_eq_true (by omega), decide_eq_false (by omega), Lib.hid (decide_eq_false (fun m => h2 m.2.2.1))⟩)
        · exact Or.inl ⟨decide_eq_false (by omega), Lib.hid (decide_eq_false (fun m => h1 m.2.1))⟩
      have hdl : ((Pth.dots s : Nat) : Int) ≤ 100000 := by omega
      clear hdk
      generalize Pth.dots s = dk at *
      rcases hcase with ⟨g1, hf⟩ | ⟨g1, g2, hf⟩ | ⟨g1, g2, g3, hf⟩ | ⟨g1, g2, g3, hf⟩
      all_goals
        go_wp2_with fail
        go_ret
        exact ⟨by rw [hf.out]; rfl, Hbel.out⟩
end Go.Proofs.Ytgpeobmaneponaa
namespace Go.Proofs.Ytgpeobmaneponaa
open Go.RowKit
theorem Pth.splitA_len (s : Tx) : ∀ cur, (splitA cur s).length ≤ s.length + 1 := by
 induction s with
 | nil => intro cur; simp [splitA]
 | cons c s ih =>
  intro cur
  unfold splitA
  split
  ·simp only [List.length_cons]; have := ih []; omega
  ·have := ih (cur ++ [c]); simp only [List.length_cons]; omega
theorem Pth.splitA_small (s : Tx) : ∀ cur, ∀ t ∈ splitA cur s, t.length ≤ cur.length + s.length := by
 induction s with
 | nil => intro cur t ht; simp [splitA] at ht; rw [ht]; simp
 | cons c s ih =>
  intro cur t ht
  unfold splitA at ht
  split at ht
  ·rcases List.mem_cons.1 ht with rfl | ht
   ·omega
   ·have := ih [] t ht; simp only [List.length_cons, List.length_nil] at *; omega
  ·have := ih (cur ++ [c]) t ht
   simp only [List.length_cons, List.length_append, List.length_nil] at *; omega
theorem Pth.split_len (s : Tx) : (split s).length ≤ s.length + 1 := splitA_len s []
theorem Pth.split_small {s t : Tx} (h : t ∈ split s) : t.length ≤ s.length := by have := splitA_small s [] t h; simpa using this
theorem ref_right (s : List UInt8) (w : World) (hs : s.length ≤ 100000) :
  Calls Try.prog 30 #[.string (mk s)] w fun e w' => e = .returned (.bool (decide (Pth.Right s))) ∧ Below w.heap.size w w' := by
 have HS := Lib.hid (ref_split s w hs)
 have HN : Hid (∀ t ∈ Pth.split s, ∀ W, Calls Try.prog 45 #[.string (mk t)] W fun e w' => e = .returned (.bool (decide (Pth.Name t))) ∧ Below W.heap.size W w') :=
  Lib.hid (fun t ht W => ref_name t W (by have := Pth.split_small ht; omega))
 have ls : (mk s).size = s.length := mk_len s
 have hll := Pth.split_len s
 have hR : decide (Pth.Right s) = true ↔ ((∀ t ∈ Pth.split s, Pth.Name t) ∧ s.length ≤ 40 ∧ (Pth.split s).length ≤ 6) := decide_eq_true_iff
 have HR := Lib.hid hR
 clear hR
 have Hlen := Lib.hid ls
 have hS : ((mk s).size : Int) ≤ 100000 := by rw [ls]; omega
 clear ls
 generalize decide (Pth.Right s) = R at *
 generalize Pth.split s = L at *
 generalize mk s = xs at *
 go_enter Try.func30, Try.ntmps30
 go_wp2_with (go_at_call 44; refine HS.out.mono ?_; rintro e w1 ⟨v, rfl, ⟨A, cap, rfl, hcap, hat⟩, hb⟩; rw [texts_len])
 rw [texts_len] at hcap hat
 have Hat := Lib.hid hat
 have Hb := Lib.hid hb
 clear hat hb
 have hL9 : (L.length : Int) ≤ 100001 := by omega
 go_loopw [4] (fun i wr => ∃ k : Nat, k ≤ L.length ∧ i = .int .i64 (k : Int) ∧ (∀ t ∈ L.take k, Pth.Name t) ∧ Below w1.heap.size w1 wr) (fun i _ => L.length - (intOf i).toNat)
 case atStart => exact ⟨0, Nat.zero_le _, rfl, by simp, Below.refl _ _⟩
 case round =>
  obtain ⟨k, hk, rfl, hall, hbel⟩ := hrel
  have Hall := Lib.hid hall
  have Hbel := Lib.hid hbel
  clear hall hbel
  have hk0 : (0 : Int) ≤ (k : Int) := by omega
  by_cases hlt : k < L.length
  ·have hk1 : (k : Int) < (L.length : Int) := by omega
   obtain ⟨ub, uo, rfl, -, hub, huk⟩ := Hat.out (by omega)
   obtain ⟨t, ht⟩ : ∃ t, L[k]? = some t := ⟨_, List.getElem?_eq_getElem hlt⟩
   obtain ⟨hl, he⟩ := List.getElem?_eq_some_iff.1 ht
   have hmem : t ∈ L := List.mem_of_getElem? ht
   have hc1 : wr.cell? ⟨ub, uo + k, none⟩ = some (.string (mk t)) := (Hbel.out.cell (p := ⟨ub, uo + k, none⟩) hub).trans (huk k _ (texts_at ht))
   have HNt := Lib.hid (HN.out t hmem wr)
   have htk : L.take (k + 1) = L.take k ++ [t] := by rw [List.take_succ_eq_append_getElem hl, he]
   clear huk ht he hl
   by_cases hn : Pth.Name t
   ·rw [decide_eq_true hn] at HNt
    have Hnext : Hid (∀ x ∈ L.take (k + 1), Pth.Name x) := Lib.hid (fun x hx => by
     rw [htk, List.mem_append] at hx
     rcases hx with hx | hx
     ·exact Hall.out x hx
     ·rw [List.mem_singleton.1 hx]; exact hn)
    clear hn htk hmem
    generalize mk t = y at *
    go_wp2_with (go_at_call 45; refine HNt.out.mono ?_; rintro e w2 ⟨rfl, hb2⟩)
    refine ⟨⟨k + 1, by omega, rfl, Hnext.out, Hbel.out.trans (hb2.mono Hbel.out.size)⟩, ?_⟩
    show L.length - ((k : Int) + 1).toNat < L.length - (k : Int).toNat
    omega
   ·rw [decide_eq_false hn] at HNt
    have HF : Hid (R = false) := Lib.hid (by
     cases R with
     | false => rfl
     | true => exact absurd ((HR.out.1 rfl).1 t hmem) hn)
    clear hn htk hmem
    generalize mk t = y at *
    go_wp2_with (go_at_call 45; refine HNt.out.mono ?_; rintro e w2 ⟨rfl, hb2⟩)
    go_ret
    exact ⟨by rw [HF.out]; rfl, Hb.out.trans ((Hbel.out.trans (hb2.mono Hbel.out.size)).mono Hb.out.size)⟩
  ·obtain rfl : k = L.length := by omega
   have Hall2 : Hid (∀ t ∈ L, Pth.Name t) := Lib.hid (by have := Hall.out; rw [List.take_length] at this; exact this)
   have hcase : (decide ((xs.size : Int) ≤ 40) = false ∧ Hid (R = false)) ∨ (decide ((xs.size : Int) ≤ 40) = true ∧ decide ((L.length : Int) ≤ 6) = false ∧ Hid (R = false)) ∨ (decide ((xs.size : Int) ≤ 40) = true ∧ decide ((L.length : Int) ≤ 6) = true ∧ Hid (R = true)) := by
    have e := Hlen.out
    by_cases h1 : s.length ≤ 40
    ·by_cases h2 : L.length ≤ 6
     ·exact Or.inr (Or.inr ⟨decide_eq_true (by omega), decide_eq_true (by omega), Lib.hid (HR.out.2 ⟨Hall2.out, h1, h2⟩)⟩)
     ·refine Or.inr (Or.inl ⟨decide_eq_true (by omega), decide_eq_false (by omega), Lib.hid ?_⟩)
      cases R with
      | false => rfl
      | true => exact absurd (HR.out.1 rfl).2.2 h2
    ·refine Or.inl ⟨decide_eq_false (by omega), Lib.hid ?_⟩
     cases R with
     | false => rfl
     | true => exact absurd (HR.out.1 rfl).2.1 h1
   rcases hcase with ⟨g1, hf⟩ | ⟨g1, g2, hf⟩ | ⟨g1, g2, hf⟩
   all_goals
    go_wp2_with fail
    go_ret
    exact ⟨by rw [hf.out]; rfl, Hb.out.trans (Hbel.out.mono Hb.out.size)⟩
end Go.Proofs.Ytgpeobmaneponaa
