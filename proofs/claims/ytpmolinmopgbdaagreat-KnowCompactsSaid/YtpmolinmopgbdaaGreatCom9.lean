import Derived.Test.YtpmolinmopgbdaaGreatCom5
import Derived.OrdersHeld
import Derived.Tactics
import Derived.Deep.RegionHeld
import Derived.Deep.QuietTactic
set_option maxRecDepth 100000
set_option linter.unusedVariables false
set_option linter.unusedSimpArgs false
namespace Go.Proofs.YtpmolinmopgbdaaGreat
section
variable {P : Program} {Q : Exit → Act → World → Prop} {md : Region.Mode}
theorem wpAny_fuel {ops : Array Oper} : ∀ (k fuel : Nat) (listed : Array Bool) (a : Act) (w : World), wpAny P md ops Q fuel listed a w → wpAny P md ops Q (fuel + k) listed a w := by
 intro k fuel
 induction fuel with
 | zero =>
  intro listed a w h
  cases k with
  | zero => exact h
  | succ k =>
   rw [Nat.zero_add]
   exact ⟨fun _ => h.2, fun i hi => by rw [h.1] at hi; cases hi⟩
 | succ fuel ih =>
  intro listed a w h
  rw [show fuel + 1 + k = (fuel + k) + 1 by omega]
  exact ⟨h.1, fun i hi => wpOp_mono (fun a w h => ih _ a w h) (h.2 i hi)⟩
def Tail (P : Program) (md : Region.Mode) (ops : Array Oper) (Q : Exit → Act → World → Prop) (m : Nat) (listed : Array Bool) : Exit → Act → World → Prop
 | .normal, a, w => wpAny P md ops Q m listed a w
 | e, a, w => Q e a w
theorem Oper.wp_tail {o : Oper} {a : Act} {w : World} {K K' : Act → World → Prop} {Q' : Exit → Act → World → Prop} (h : ∀ a w, K a w → K' a w) (hQ : ∀ e a w, e ≠ .normal → Q' e a w → Q e a w)
  (hh : o.wp P a w K Q') : o.wp P a w K' Q := by
 unfold Oper.wp at *
 generalize (execOp a.eval o).run P w = r at *
 cases r with
 | ok n w' =>
  cases n <;> simp only [Oper.upon] at hh ⊢
  ·exact h _ _ hh
  ·exact h _ _ hh
  ·refine Calls.mono hh (fun e w'' he => ?_)
   cases e with
   | returned v => exact h _ _ he
   | panicked c => exact hQ _ _ _ (by simp) he
   | outgrown => exact he.imp fun a ha => ha.imp fun w hw => hQ _ _ _ (by simp) hw
  ·exact h _ _ hh
  ·exact Rows.mono hh (fun _ _ he => h _ _ he)
 | halt x w' =>
  cases x <;> simp only [Oper.upon] at hh ⊢
  exact hQ _ _ _ (by simp) hh
def waits (md : Region.Mode) (ops : Array Oper) : Nat → Nat → Nat → Bool
 | 0, _, _ => false
 | f + 1, i, j => match ops[i]? with
  | none => false
  | some o => (o.after.any fun e => Region.binds md e && e.on == j) || o.after.any fun e => Region.binds md e && waits md ops f e.on j
def Clos (md : Region.Mode) (ops : Array Oper) (L : Array Bool) : Prop := ∀ (i : Nat) (o : Oper), ops[i]? = some o → L.getD i false = true → ∀ e ∈ o.after, Region.binds md e = true → L.getD e.on false = true
theorem waits_listed {ops : Array Oper} {L : Array Bool} (hc : Clos md ops L) : ∀ (f i j : Nat), (∀ o, ops[i]? = some o → ∀ e ∈ o.after, Region.binds md e = true → L.getD e.on false = true) → waits md ops f i j = true → L.getD j false = true
 | 0, _, _, _, h => by cases h
 | f + 1, i, j, hi, h => by
  unfold waits at h
  cases ho : ops[i]? with
  | none => rw [ho] at h; cases h
  | some o =>
   rw [ho] at h
   simp only at h
   rw [Bool.or_eq_true] at h
   rcases h with h | h
   ·rw [← Array.any_toList, List.any_eq_true] at h
    obtain ⟨e, he, hb⟩ := h
    simp only [Bool.and_eq_true, beq_iff_eq] at hb
    have hl := hi o ho e (Array.mem_toList_iff.1 he) hb.1
    rwa [hb.2] at hl
   ·rw [← Array.any_toList, List.any_eq_true] at h
    obtain ⟨e, he, hb⟩ := h
    simp only [Bool.and_eq_true] at hb
    have hl := hi o ho e (Array.mem_toList_iff.1 he) hb.1
    exact waits_listed hc f e.on j (fun o' ho' => hc e.on o' ho' hl) hb.2
theorem getD_set_true (L : Array Bool) (i k : Nat) (h : L.getD k false = true) : (L.setIfInBounds i true).getD k false = true := by
 rw [Array.getD_eq_getD_getElem?] at h ⊢
 rw [Array.getElem?_setIfInBounds]
 split
 ·split
  ·rfl
  ·rename_i h1 h2
   subst h1
   rw [Array.getElem?_eq_none (by omega)] at h
   cases h
 ·exact h
theorem Clos.set {ops : Array Oper} {L : Array Bool} (hc : Clos md ops L) {i : Nat} (hi : ∀ o, ops[i]? = some o → ∀ e ∈ o.after, Region.binds md e = true → L.getD e.on false = true) : Clos md ops (L.setIfInBounds i true) := by
 intro k o ho hk e he hb
 refine getD_set_true L i e.on ?_
 by_cases hki : k = i
 ·subst hki
  exact hi o ho e he hb
 ·refine hc k o ho ?_ e he hb
  rw [Array.getD_eq_getD_getElem?] at hk ⊢
  rwa [Array.getElem?_setIfInBounds, if_neg (fun e => hki e.symm)] at hk
def tailOk (md : Region.Mode) (ops : Array Oper) (n : Nat) : Bool :=
 decide (n ≤ ops.size) && (List.range ops.size).all fun i => match ops[i]? with
  | none => true
  | some o => if i < n then (o.after.all fun e => !Region.binds md e || decide (e.on < i)) && (match o.guard with | none => true | some (j, _) => decide (j < n))
   else (o.after.any fun e => Region.binds md e && decide (n ≤ e.on) && decide (e.on < ops.size)) || (List.range n).all fun j => waits md ops n i j
theorem tailOk_spec {ops : Array Oper} {n : Nat} (h : tailOk md ops n = true) : n ≤ ops.size ∧
  (∀ i o, ops[i]? = some o → i < n → (∀ e ∈ o.after, Region.binds md e = true → e.on < i) ∧ ∀ j b, o.guard = some (j, b) → j < n) ∧
  (∀ i o, ops[i]? = some o → n ≤ i → (∃ e ∈ o.after, Region.binds md e = true ∧ n ≤ e.on ∧ e.on < ops.size) ∨ ∀ j, j < n → waits md ops n i j = true) := by
 unfold tailOk at h
 rw [Bool.and_eq_true, List.all_eq_true] at h
 obtain ⟨h1, h2⟩ := h
 refine ⟨of_decide_eq_true h1, fun i o ho hi => ?_, fun i o ho hi => ?_⟩
 ·have hlt : i < ops.size := (Array.getElem?_eq_some_iff.1 ho).1
  have := h2 i (List.mem_range.2 hlt)
  simp only [ho, if_pos hi, Bool.and_eq_true] at this
  obtain ⟨ha, hg⟩ := this
  refine ⟨fun e he hb => ?_, fun j b hjb => ?_⟩
  ·have := Array.all_eq_true_iff_forall_mem.1 ha e he
   simp only [hb, Bool.not_true, Bool.false_or] at this
   exact of_decide_eq_true this
  ·rw [hjb] at hg
   exact of_decide_eq_true hg
 ·have hlt : i < ops.size := (Array.getElem?_eq_some_iff.1 ho).1
  have := h2 i (List.mem_range.2 hlt)
  simp only [ho, if_neg (Nat.not_lt.2 hi), Bool.or_eq_true] at this
  rcases this with this | this
  ·rw [← Array.any_toList, List.any_eq_true] at this
   obtain ⟨e, he, hb⟩ := this
   simp only [Bool.and_eq_true, decide_eq_true_eq] at hb
   exact Or.inl ⟨e, Array.mem_toList_iff.1 he, hb.1.1, hb.1.2, hb.2⟩
  refine Or.inr (fun j hj => ?_)
  exact List.all_eq_true.1 this j (List.mem_range.2 hj)
theorem mask_get (l : Array Bool) (m : Nat) (j : Nat) (d : Bool) (h : j < l.size) : (l ++ Array.replicate m false).getD j d = l.getD j d := by
 simp only [Array.getD_eq_getD_getElem?]
 rw [Array.getElem?_append_left h]
theorem mask_set (l : Array Bool) (m : Nat) (j : Nat) (h : j < l.size) : (l ++ Array.replicate m false).setIfInBounds j true = l.setIfInBounds j true ++ Array.replicate m false := by
 rw [Array.setIfInBounds_append, if_pos h]
theorem take_get {ops : Array Oper} {n i : Nat} (hi : i < n) : (ops.extract 0 n)[i]? = ops[i]? := by
 rw [Array.getElem?_extract]
 by_cases h : i < ops.size
 ·rw [if_pos (by omega), Nat.zero_add]
 ·rw [if_neg (by omega), Array.getElem?_eq_none (by omega)]
theorem wpAny_tail {ops : Array Oper} {n : Nat} (hok : tailOk md ops n = true) : ∀ (fuel : Nat) (listed : Array Bool) (a : Act) (w : World), listed.size = n → Clos md ops (listed ++ Array.replicate (ops.size - n) false) →
  wpAny P md (ops.extract 0 n) (Tail P md ops Q (ops.size - n) (Array.replicate n true ++ Array.replicate (ops.size - n) false)) fuel listed a w →
  wpAny P md ops Q (fuel + (ops.size - n)) (listed ++ Array.replicate (ops.size - n) false) a w := by
 obtain ⟨hn, hhd, htl⟩ := tailOk_spec hok
 have hsz : (ops.extract 0 n).size = n := by simp; omega
 -- what may come up of the first ones is what may come up of all
 have ready : ∀ listed : Array Bool, listed.size = n → ∀ i, i < n → (i ∈ Region.ready md ops (listed ++ Array.replicate (ops.size - n) false) ↔ i ∈ Region.ready md (ops.extract 0 n) listed) := by
  intro listed hl i hi
  rw [mem_ready, mem_ready, take_get hi, mask_get _ _ _ _ (by omega)]
  constructor
  ·rintro ⟨h0, o, ho, ha⟩
   refine ⟨h0, o, ho, fun e he hb => ?_⟩
   have := ha e he hb
   rwa [mask_get _ _ _ _ (by have := (hhd i o ho hi).1 e he hb; omega)] at this
  ·rintro ⟨h0, o, ho, ha⟩
   refine ⟨h0, o, ho, fun e he hb => ?_⟩
   rw [mask_get _ _ _ _ (by have := (hhd i o ho hi).1 e he hb; omega)]
   exact ha e he hb
 -- if none may come up, all have
 have full : ∀ listed : Array Bool, listed.size = n → Region.ready md (ops.extract 0 n) listed = [] → ∀ i, i < n → listed.getD i true = true := by
  intro listed hl hr i
  induction i using Nat.strongRecOn with
  | _ i ih =>
   intro hi
   cases hv : listed.getD i true with
   | true => rfl
   | false =>
    obtain ⟨o, ho⟩ : ∃ o, ops[i]? = some o := ⟨_, Array.getElem?_eq_getElem (by omega)⟩
    have : i ∈ Region.ready md (ops.extract 0 n) listed := mem_ready.2 ⟨hv, o, by rw [take_get hi]; exact ho, fun e he hb => by
     have hlt := (hhd i o ho hi).1 e he hb
     have := ih e.on hlt (by omega)
     rw [Array.getD_eq_getD_getElem?] at this ⊢
     rw [Array.getElem?_eq_getElem (by omega)] at this ⊢
     exact this⟩
    rw [hr] at this; cases this
 -- while one of the first ones may come up, none of the last ones may
 have late : ∀ listed : Array Bool, listed.size = n → Clos md ops (listed ++ Array.replicate (ops.size - n) false) → ∀ i, i ∈ Region.ready md ops (listed ++ Array.replicate (ops.size - n) false) → n ≤ i → Region.ready md (ops.extract 0 n) listed = [] := by
  intro listed hl hcl i hi hni
  obtain ⟨h0, o, ho, ha⟩ := mem_ready.1 hi
  rw [List.eq_nil_iff_forall_not_mem]
  intro j hj
  obtain ⟨hj0, oj, hoj, _⟩ := mem_ready.1 hj
  have hjn : j < n := by have := (Array.getElem?_eq_some_iff.1 hoj).1; omega
  rcases htl i o ho hni with ⟨e, he, hb, h1, h2⟩ | htl
  ·have := ha e he hb
   rw [Array.getD_eq_getD_getElem?, Array.getElem?_append_right (by omega), Array.getElem?_replicate, if_pos (by omega)] at this
   cases this
  have := waits_listed hcl n i j (fun o' ho' => by rw [ho] at ho'; injection ho' with ho'; subst ho'; exact ha) (htl j hjn)
  rw [mask_get _ _ _ _ (by omega), Array.getD_eq_getD_getElem?, Array.getElem?_eq_getElem (by omega)] at this
  rw [Array.getD_eq_getD_getElem?, Array.getElem?_eq_getElem (by omega)] at hj0
  simp only [Option.getD_some] at this hj0
  rw [this] at hj0; cases hj0
 have allSet : ∀ listed : Array Bool, listed.size = n → Region.ready md (ops.extract 0 n) listed = [] → listed = Array.replicate n true := by
  intro listed hl hr
  apply Array.ext
  ·simp [hl]
  ·intro i h1 h2
   have := full listed hl hr i (by omega)
   rw [Array.getD_eq_getD_getElem?, Array.getElem?_eq_getElem h1] at this
   simpa using this
 intro fuel
 induction fuel with
 | zero =>
  intro listed a w hl hcl h
  rw [Nat.zero_add, allSet listed hl h.1]
  exact h.2
 | succ fuel ih =>
  intro listed a w hl hcl h
  by_cases hr : Region.ready md (ops.extract 0 n) listed = []
  ·rw [allSet listed hl hr, Nat.add_comm]
   exact wpAny_fuel _ _ _ _ _ (h.1 hr)
  ·rw [show fuel + 1 + (ops.size - n) = (fuel + (ops.size - n)) + 1 by omega]
   have hin : ∀ i, i ∈ Region.ready md ops (listed ++ Array.replicate (ops.size - n) false) → i < n := fun i hi => by
    rcases Nat.lt_or_ge i n with hlt | hge
    ·exact hlt
    ·exact absurd (late listed hl hcl i hi hge) hr
   refine ⟨fun h0 => ?_, fun i hi => ?_⟩
   ·exfalso
    obtain ⟨i, hi⟩ := List.exists_mem_of_ne_nil _ hr
    have hlt : i < n := by
     obtain ⟨_, o, ho, _⟩ := mem_ready.1 hi
     have := (Array.getElem?_eq_some_iff.1 ho).1
     omega
    have := (ready listed hl i hlt).2 hi
    rw [h0] at this; cases this
   ·have hlt := hin i hi
    have h2 := h.2 i ((ready listed hl i hlt).1 hi)
    obtain ⟨o, ho⟩ : ∃ o, ops[i]? = some o := ⟨_, Array.getElem?_eq_getElem (by omega)⟩
    have hK : ∀ a w, wpAny P md (ops.extract 0 n) (Tail P md ops Q (ops.size - n) (Array.replicate n true ++ Array.replicate (ops.size - n) false)) fuel (listed.setIfInBounds i true) a w →
      wpAny P md ops Q (fuel + (ops.size - n)) ((listed ++ Array.replicate (ops.size - n) false).setIfInBounds i true) a w := fun a w hw => by
     rw [mask_set _ _ _ (by omega)]
     exact ih _ a w (by simpa using hl) (by rw [← mask_set _ _ _ (by omega)]; exact hcl.set (fun o' ho' => by obtain ⟨_, o2, ho2, ha2⟩ := mem_ready.1 hi; rw [ho2] at ho'; injection ho' with ho'; subst ho'; exact ha2)) hw
    have hy : Region.wanted o (yielded ops a.tmps) = Region.wanted o (yielded (ops.extract 0 n) a.tmps) := by
     unfold Region.wanted
     cases hg : o.guard with
     | none => rfl
     | some g =>
      obtain ⟨j, b⟩ := g
      have hj := (hhd i o ho hlt).2 j b hg
      simp only [yielded, take_get hj]
    unfold wpOp at h2 ⊢
    rw [take_get hlt] at h2
    simp only [ho] at h2 ⊢
    rw [hy]
    split
    ·rename_i hw
     simp only [hw, if_true] at h2
     rcases h2 with h2 | ⟨h2, a', w', h3⟩
     ·exact .inl (Oper.wp_tail hK (fun e a w hne he => by cases e <;> first | exact absurd rfl hne | exact he) h2)
     ·exact .inr ⟨h2, a', w', h3⟩
    ·rename_i hw
     simp only [hw] at h2
     exact hK _ _ h2
theorem wp_region_tail {ops hd : Array Oper} {id n : Nat} {a : Act} {w : World} {S : World → Prop} (hm : P.follows .mixedOrders = true) (hok : tailOk .any ops n = true) (hhd : ops.extract 0 n = hd) (hS : S w.drew)
  (h : S w.drew → wpAnyH P .any hd (Tail P .any ops Q (ops.size - n) (Array.replicate n true ++ Array.replicate (ops.size - n) false)) S n (Array.replicate n false) a w.drew) : (Code.region id ops true).wp P Q a w := by
 subst hhd
 refine wp_region_any hm ?_
 have h1 := wpAny_tail hok n (Array.replicate n false) a w.drew (by simp) (fun i o _ hi => by
  rw [Array.getD_eq_getD_getElem?, Array.replicate_append_replicate, Array.getElem?_replicate] at hi
  split at hi <;> cases hi) (wpAny_of_held _ _ _ _ (h hS))
 have hn := (tailOk_spec hok).1
 have e1 : n + (ops.size - n) = ops.size := by omega
 have e2 : Array.replicate n false ++ Array.replicate (ops.size - n) false = Array.replicate ops.size false := by
  rw [Array.replicate_append_replicate, e1]
 rw [e1, e2] at h1
 exact h1
end
theorem wpAnyH_tk {P : Program} {md : Region.Mode} {ops : Array Oper} {Q : Exit → Act → World → Prop} {S : World → Prop} {i : Nat} {oi : Oper} {v : Value} {fuel : Nat} {listed : Array Bool} {a : Act} {w : World} (hi : ops[i]? = some oi)
    (hy : YieldsIf P ops S oi v a) (hS : S w) (h : wpAnyH P md ops Q S fuel (listed.setIfInBounds i true) (a.put oi.dst v) w)
    (hs : Region.noSelect ops = true := by kernel_rfl) (hf : Region.free md ops listed i = true := by kernel_rfl) (hr : (Region.ready md ops listed).contains i = true := by kernel_rfl) (hQ : ∀ c a w, Q (.panic c) (a.put oi.dst v) w → Q (.panic c) a w := by exact fun _ _ _ h => h) : wpAnyH P md ops Q S (fuel + 1) listed a w := wpAnyH_take hi hs hf hr hQ hy hS h
theorem wpAnyH_td {P : Program} {md : Region.Mode} {ops : Array Oper} {Q : Exit → Act → World → Prop} {S : World → Prop} {i : Nat} {oi : Oper} {v : Value} {fuel : Nat} {listed : Array Bool} {a : Act} {w : World} (hi : ops[i]? = some oi)
    (h : wpAnyH P md ops Q S fuel (listed.setIfInBounds i true) (a.put oi.dst v) w)
    (hs : Region.noSelect ops = true := by kernel_rfl) (hf : Region.free md ops listed i = true := by kernel_rfl) (hr : (Region.ready md ops listed).contains i = true := by kernel_rfl) (hQ : ∀ c a w, Q (.panic c) (a.put oi.dst v) w → Q (.panic c) a w := by exact fun _ _ _ h => h)
    (hw : Region.wanted oi (yielded ops a.tmps) = true := by rfl) (hv : ∀ w, S w → (execOp a.eval oi).run P w = .ok (.value v) w := by intro w hSw; go_simp; try with_reducible rfl) (hS : S w := by assumption) : wpAnyH P md ops Q S (fuel + 1) listed a w := wpAnyH_take hi hs hf hr hQ (Or.inl ⟨hw, hv⟩) hS h
end Go.Proofs.YtpmolinmopgbdaaGreat
namespace Go.Proofs.YtpmolinmopgbdaaGreat
open Go.RowKit Go.Sort
theorem ver_drews (w : World) (n : Nat) : Below w.heap.size w (w.drewN n) := ⟨rfl, rfl, rfl, Nat.le_refl _, fun _ _ => rfl⟩
theorem laid_one (w : World) (o : Obj) : Laid w (w.alloc o) := Laid.new w o
theorem laid_two (w : World) (o p : Obj) : Laid w ((w.alloc o).alloc p) := (Laid.new w o).trans (Laid.new _ p)
theorem ref_vright (w : World) (v : Ver.V) : Calls Tryz.prog 51 #[verA v] w fun e w' => e = .returned (.bool (decide (Ver.Right v))) ∧ Laid w w' := by
 have L := Lib.hid (laid_one w)
 have e : decide (Ver.Right v) = (decide ((1 : Int) ≤ v.by_) && (decide (v.by_ ≤ 64) && decide ((1 : Int) ≤ v.n))) := by rw [Bool.eq_iff_iff, decide_eq_true_iff]; simp [Ver.Right]
 have E := Lib.hid e
 clear e
 obtain ⟨x, y⟩ := v
 simp only at E ⊢
 by_cases h1 : (1 : Int) ≤ x
 ·by_cases h2 : x ≤ 64
  ·go_enter Tryz.func51, Tryz.ntmps51
   go_wp2_with fail
   go_ret
   exact ⟨by rw [E.out]; first | (simp [h1, h2]; done) | (simp [h1, h2]; omega), L.out _⟩
  ·go_enter Tryz.func51, Tryz.ntmps51
   go_wp2_with fail
   go_ret
   exact ⟨by rw [E.out]; first | (simp [h1, h2]; done) | (simp [h1, h2]; omega), L.out _⟩
 ·go_enter Tryz.func51, Tryz.ntmps51
  go_wp2_with fail
  go_ret
  exact ⟨by rw [E.out]; first | (simp [h1]; done) | (simp [h1]; omega), L.out _⟩
theorem before_alt (x y x' y' : Int) : decide (Ver.Before ⟨x, y⟩ ⟨x', y'⟩) = (decide (x < x') || (decide (x = x') && decide (y < y'))) := by rw [Bool.eq_iff_iff, decide_eq_true_iff]; simp [Ver.Before]
theorem ref_vbefore (w : World) (a b : Ver.V) : Calls Tryz.prog 45 #[verA a, verA b] w fun e w' => e = .returned (.bool (decide (Ver.Before a b))) ∧ Laid w w' := by
 have L := Lib.hid (laid_two w)
 obtain ⟨x, y⟩ := a
 obtain ⟨x', y'⟩ := b
 have E := Lib.hid (before_alt x y x' y')
 by_cases h1 : x < x'
 ·go_enter Tryz.func45, Tryz.ntmps45
  go_wp2_with fail
  go_ret
  exact ⟨by rw [E.out]; first | (simp [h1]; done) | (simp [h1]; omega), L.out _ _⟩
 ·by_cases h2 : x = x'
  ·subst h2
   go_enter Tryz.func45, Tryz.ntmps45
   go_wp2_with fail
   go_ret
   exact ⟨by rw [E.out]; first | (simp [h1]; done) | (simp [h1]; omega), L.out _ _⟩
  ·go_enter Tryz.func45, Tryz.ntmps45
   go_wp2_with fail
   go_ret
   exact ⟨by rw [E.out]; first | (simp [h1, h2]; done) | (simp [h1, h2]; omega), L.out _ _⟩
end Go.Proofs.YtpmolinmopgbdaaGreat
