/- A region whose last operations wait for all the others (the stores of an assignment): the others come in whatever order, then these. No program is spoken of. -/
import Derived.Test.YtbfjageaheijbaaGreatCom13
import Derived.Test.YtbfjageaheijbaaGreatCom14
import Derived.OrdersHeld
import Derived.Tactics
import Derived.Deep.RegionHeld
namespace Go.Proofs.YtbfjageaheijbaaGreat

section
variable {P : Program} {Q : Exit → Act → World → Prop} {md : Region.Mode}

set_option maxRecDepth 100000 in
theorem wpAny_fuel {ops : Array Oper} : ∀ (k fuel : Nat) (listed : Array Bool) (a : Act) (w : World), wpAny P md ops Q fuel listed a w → wpAny P md ops Q (fuel + k) listed a w := by
  intro k fuel
  induction fuel with
  | zero =>
    intro listed a w h
    cases k with
    | zero => exact h
    | succ k =>
      rw [Nat.zero_add]
      exact ⟨fun _ => h.2, fun i hi => by rw [h.1] at hi; cases hi⟩
  | succ fuel ih =>
    intro listed a w h
    rw [show fuel + 1 + k = (fuel + k) + 1 by omega]
    exact ⟨h.1, fun i hi => wpOp_mono (fun a w h => ih _ a w h) (h.2 i hi)⟩

/-- What is asked behind the first ones: the last ones, in their order. -/
def Tail (P : Program) (md : Region.Mode) (ops : Array Oper) (Q : Exit → Act → World → Prop) (m : Nat) (listed : Array Bool) : Exit → Act → World → Prop
  | .normal, a, w => wpAny P md ops Q m listed a w
  | e, a, w => Q e a w

set_option maxRecDepth 100000 in
theorem Oper.wp_tail {o : Oper} {a : Act} {w : World} {K K' : Act → World → Prop} {Q' : Exit → Act → World → Prop} (h : ∀ a w, K a w → K' a w) (hQ : ∀ e a w, e ≠ .normal → Q' e a w → Q e a w)
    (hh : o.wp P a w K Q') : o.wp P a w K' Q := by
  unfold Oper.wp at *
  generalize (execOp a.eval o).run P w = r at *
  cases r with
  | ok n w' =>
    cases n <;> simp only [Oper.upon] at hh ⊢
    · exact h _ _ hh
    · exact h _ _ hh
    · refine Calls.mono hh (fun e w'' he => ?_)
      cases e with
      | returned v => exact h _ _ he
      | panicked c => exact hQ _ _ _ (by simp) he
      | outgrown => exact he.imp fun a ha => ha.imp fun w hw => hQ _ _ _ (by simp) hw
    · exact h _ _ hh
    · exact Rows.mono hh (fun _ _ he => h _ _ he)
  | halt x w' =>
    cases x <;> simp only [Oper.upon] at hh ⊢
    exact hQ _ _ _ (by simp) hh

/-- The first n operations hang on none of the others; each of the others waits for all of the first n. -/
def tailOk (md : Region.Mode) (ops : Array Oper) (n : Nat) : Bool :=
  decide (n ≤ ops.size) && (List.range ops.size).all fun i => match ops[i]? with
    | none => true
    | some o => if i < n then (o.after.all fun e => !Region.binds md e || decide (e.on < i)) && (match o.guard with | none => true | some (j, _) => decide (j < n))
      else (List.range n).all fun j => o.after.any fun e => Region.binds md e && e.on == j

set_option maxRecDepth 100000 in
theorem tailOk_spec {ops : Array Oper} {n : Nat} (h : tailOk md ops n = true) : n ≤ ops.size ∧
    (∀ i o, ops[i]? = some o → i < n → (∀ e ∈ o.after, Region.binds md e = true → e.on < i) ∧ ∀ j b, o.guard = some (j, b) → j < n) ∧
    (∀ i o, ops[i]? = some o → n ≤ i → ∀ j, j < n → ∃ e ∈ o.after, Region.binds md e = true ∧ e.on = j) := by
  unfold tailOk at h
  rw [Bool.and_eq_true, List.all_eq_true] at h
  obtain ⟨h1, h2⟩ := h
  refine ⟨of_decide_eq_true h1, fun i o ho hi => ?_, fun i o ho hi j hj => ?_⟩
  · have hlt : i < ops.size := (Array.getElem?_eq_some_iff.1 ho).1
    have := h2 i (List.mem_range.2 hlt)
    simp only [ho, if_pos hi, Bool.and_eq_true] at this
    obtain ⟨ha, hg⟩ := this
    refine ⟨fun e he hb => ?_, fun j b hjb => ?_⟩
    · have := Array.all_eq_true_iff_forall_mem.1 ha e he
      simp only [hb, Bool.not_true, Bool.false_or] at this
      exact of_decide_eq_true this
    · rw [hjb] at hg
      exact of_decide_eq_true hg
  · have hlt : i < ops.size := (Array.getElem?_eq_some_iff.1 ho).1
    have := h2 i (List.mem_range.2 hlt)
    simp only [ho, if_neg (Nat.not_lt.2 hi)] at this
    have := List.all_eq_true.1 this j (List.mem_range.2 hj)
    rw [← Array.any_toList, List.any_eq_true] at this
    obtain ⟨e, he, hb⟩ := this
    simp only [Bool.and_eq_true, beq_iff_eq] at hb
    exact ⟨e, Array.mem_toList_iff.1 he, hb.1, hb.2⟩

set_option maxRecDepth 100000 in
theorem mask_get (l : Array Bool) (m : Nat) (j : Nat) (d : Bool) (h : j < l.size) : (l ++ Array.replicate m false).getD j d = l.getD j d := by
  simp only [Array.getD_eq_getD_getElem?]
  rw [Array.getElem?_append_left h]

set_option maxRecDepth 100000 in
theorem mask_set (l : Array Bool) (m : Nat) (j : Nat) (h : j < l.size) : (l ++ Array.replicate m false).setIfInBounds j true = l.setIfInBounds j true ++ Array.replicate m false := by
  rw [Array.setIfInBounds_append, if_pos h]

set_option maxRecDepth 100000 in
theorem take_get {ops : Array Oper} {n i : Nat} (hi : i < n) : (ops.extract 0 n)[i]? = ops[i]? := by
  rw [Array.getElem?_extract]
  by_cases h : i < ops.size
  · rw [if_pos (by omega), Nat.zero_add]
  · rw [if_neg (by omega), Array.getElem?_eq_none (by omega)]

set_option maxRecDepth 100000 in
theorem wpAny_tail {ops : Array Oper} {n : Nat} (hok : tailOk md ops n = true) : ∀ (fuel : Nat) (listed : Array Bool) (a : Act) (w : World), listed.size = n →
    wpAny P md (ops.extract 0 n) (Tail P md ops Q (ops.size - n) (Array.replicate n true ++ Array.replicate (ops.size - n) false)) fuel listed a w →
    wpAny P md ops Q (fuel + (ops.size - n)) (listed ++ Array.replicate (ops.size - n) false) a w := by
  obtain ⟨hn, hhd, htl⟩ := tailOk_spec hok
  have hsz : (ops.extract 0 n).size = n := by simp; omega
  -- what may come up of the first ones is what may come up of all
  have ready : ∀ listed : Array Bool, listed.size = n → ∀ i, i < n → (i ∈ Region.ready md ops (listed ++ Array.replicate (ops.size - n) false) ↔ i ∈ Region.ready md (ops.extract 0 n) listed) := by
    intro listed hl i hi
    rw [mem_ready, mem_ready, take_get hi, mask_get _ _ _ _ (by omega)]
    constructor
    · rintro ⟨h0, o, ho, ha⟩
      refine ⟨h0, o, ho, fun e he hb => ?_⟩
      have := ha e he hb
      rwa [mask_get _ _ _ _ (by have := (hhd i o ho hi).1 e he hb; omega)] at this
    · rintro ⟨h0, o, ho, ha⟩
      refine ⟨h0, o, ho, fun e he hb => ?_⟩
      rw [mask_get _ _ _ _ (by have := (hhd i o ho hi).1 e he hb; omega)]
      exact ha e he hb
  -- if none may come up, all have
  have full : ∀ listed : Array Bool, listed.size = n → Region.ready md (ops.extract 0 n) listed = [] → ∀ i, i < n → listed.getD i true = true := by
    intro listed hl hr i
    induction i using Nat.strongRecOn with
    | _ i ih =>
      intro hi
      cases hv : listed.getD i true with
      | true => rfl
      | false =>
        obtain ⟨o, ho⟩ : ∃ o, ops[i]? = some o := ⟨_, Array.getElem?_eq_getElem (by omega)⟩
        have : i ∈ Region.ready md (ops.extract 0 n) listed := mem_ready.2 ⟨hv, o, by rw [take_get hi]; exact ho, fun e he hb => by
          have hlt := (hhd i o ho hi).1 e he hb
          have := ih e.on hlt (by omega)
          rw [Array.getD_eq_getD_getElem?] at this ⊢
          rw [Array.getElem?_eq_getElem (by omega)] at this ⊢
          exact this⟩
        rw [hr] at this; cases this
  -- while one of the first ones may come up, none of the last ones may
  have late : ∀ listed : Array Bool, listed.size = n → ∀ i, i ∈ Region.ready md ops (listed ++ Array.replicate (ops.size - n) false) → n ≤ i → Region.ready md (ops.extract 0 n) listed = [] := by
    intro listed hl i hi hni
    obtain ⟨h0, o, ho, ha⟩ := mem_ready.1 hi
    rw [List.eq_nil_iff_forall_not_mem]
    intro j hj
    obtain ⟨hj0, oj, hoj, _⟩ := mem_ready.1 hj
    have hjn : j < n := by have := (Array.getElem?_eq_some_iff.1 hoj).1; omega
    obtain ⟨e, he, hb, heq⟩ := htl i o ho hni j hjn
    have := ha e he hb
    rw [heq, mask_get _ _ _ _ (by omega), Array.getD_eq_getD_getElem?, Array.getElem?_eq_getElem (by omega)] at this
    rw [Array.getD_eq_getD_getElem?, Array.getElem?_eq_getElem (by omega)] at hj0
    simp only [Option.getD_some] at this hj0
    rw [this] at hj0; cases hj0
  have allSet : ∀ listed : Array Bool, listed.size = n → Region.ready md (ops.extract 0 n) listed = [] → listed = Array.replicate n true := by
    intro listed hl hr
    apply Array.ext
    · simp [hl]
    · intro i h1 h2
      have := full listed hl hr i (by omega)
      rw [Array.getD_eq_getD_getElem?, Array.getElem?_eq_getElem h1] at this
      simpa using this
  intro fuel
  induction fuel with
  | zero =>
    intro listed a w hl h
    rw [Nat.zero_add, allSet listed hl h.1]
    exact h.2
  | succ fuel ih =>
    intro listed a w hl h
    by_cases hr : Region.ready md (ops.extract 0 n) listed = []
    · rw [allSet listed hl hr, Nat.add_comm]
      exact wpAny_fuel _ _ _ _ _ (h.1 hr)
    · rw [show fuel + 1 + (ops.size - n) = (fuel + (ops.size - n)) + 1 by omega]
      have hin : ∀ i, i ∈ Region.ready md ops (listed ++ Array.replicate (ops.size - n) false) → i < n := fun i hi => by
        rcases Nat.lt_or_ge i n with hlt | hge
        · exact hlt
        · exact absurd (late listed hl i hi hge) hr
      refine ⟨fun h0 => ?_, fun i hi => ?_⟩
      · exfalso
        obtain ⟨i, hi⟩ := List.exists_mem_of_ne_nil _ hr
        have hlt : i < n := by
          obtain ⟨_, o, ho, _⟩ := mem_ready.1 hi
          have := (Array.getElem?_eq_some_iff.1 ho).1
          omega
        have := (ready listed hl i hlt).2 hi
        rw [h0] at this; cases this
      · have hlt := hin i hi
        have h2 := h.2 i ((ready listed hl i hlt).1 hi)
        obtain ⟨o, ho⟩ : ∃ o, ops[i]? = some o := ⟨_, Array.getElem?_eq_getElem (by omega)⟩
        have hK : ∀ a w, wpAny P md (ops.extract 0 n) (Tail P md ops Q (ops.size - n) (Array.replicate n true ++ Array.replicate (ops.size - n) false)) fuel (listed.setIfInBounds i true) a w →
            wpAny P md ops Q (fuel + (ops.size - n)) ((listed ++ Array.replicate (ops.size - n) false).setIfInBounds i true) a w := fun a w hw => by
          rw [mask_set _ _ _ (by omega)]
          exact ih _ a w (by simpa using hl) hw
        have hy : Region.wanted o (yielded ops a.tmps) = Region.wanted o (yielded (ops.extract 0 n) a.tmps) := by
          unfold Region.wanted
          cases hg : o.guard with
          | none => rfl
          | some g =>
            obtain ⟨j, b⟩ := g
            have hj := (hhd i o ho hlt).2 j b hg
            simp only [yielded, take_get hj]
        unfold wpOp at h2 ⊢
        rw [take_get hlt] at h2
        simp only [ho] at h2 ⊢
        rw [hy]
        split
        · rename_i hw
          simp only [hw, if_true] at h2
          rcases h2 with h2 | ⟨h2, a', w', h3⟩
          · exact .inl (Oper.wp_tail hK (fun e a w hne he => by cases e <;> first | exact absurd rfl hne | exact he) h2)
          · exact .inr ⟨h2, a', w', h3⟩
        · rename_i hw
          simp only [hw] at h2
          exact hK _ _ h2

set_option maxRecDepth 100000 in
/-- **The beginning.** -/
theorem wp_region_tail {ops hd : Array Oper} {id n : Nat} {a : Act} {w : World} {S : World → Prop} (hm : P.follows .mixedOrders = true) (hok : tailOk .any ops n = true) (hhd : ops.extract 0 n = hd) (hS : S w.drew)
    (h : S w.drew → wpAnyH P .any hd (Tail P .any ops Q (ops.size - n) (Array.replicate n true ++ Array.replicate (ops.size - n) false)) S n (Array.replicate n false) a w.drew) : (Code.region id ops true).wp P Q a w := by
  subst hhd
  refine wp_region_any hm ?_
  have h1 := wpAny_tail hok n (Array.replicate n false) a w.drew (by simp) (wpAny_of_held _ _ _ _ (h hS))
  have hn := (tailOk_spec hok).1
  have e1 : n + (ops.size - n) = ops.size := by omega
  have e2 : Array.replicate n false ++ Array.replicate (ops.size - n) false = Array.replicate ops.size false := by
    rw [Array.replicate_append_replicate, e1]
  rw [e1, e2] at h1
  exact h1
end
end Go.Proofs.YtbfjageaheijbaaGreat
/- The landed store: a transaction's record. -/
set_option linter.unusedSimpArgs false
set_option linter.unusedVariables false
namespace Go.Proofs.YtbfjageaheijbaaGreat
open Go.RowKit

def flT (s : List UInt8) : Fl := ⟨0, mk s, true⟩
def flN (n : Int) : Fl := ⟨n, ⟨#[]⟩, false⟩
def flOf (c : Sto.Ch) : List Fl := if c.gone then [flT c.key, flN 1] else [flT c.key, flN 0, flT c.val]
def flAll (cs : List Sto.Ch) : List Fl := cs.flatMap flOf
def fl3 (f : Fl) : List Value := [.int .i64 f.num, .string f.txt, .bool f.isT]

set_option maxRecDepth 100000 in
theorem fl3_len (f : Fl) : (fl3 f).length = 3 := rfl
set_option maxRecDepth 100000 in
theorem fl3_one (f : Fl) : ∀ u ∈ fl3 f, u.oneCell' = true := by
  intro u hu
  unfold fl3 at hu
  simp only [List.mem_cons, List.not_mem_nil, or_false] at hu
  rcases hu with rfl | rfl | rfl <;> rfl

set_option maxRecDepth 100000 in
theorem flT_bytes (s : List UInt8) : (flT s).bytes = Leb.enc s.length ++ s := by
  unfold Fl.bytes Fl.head Fl.body flT numOf strOf
  simp only [if_true, mk_data, mk_len, Int.toNat_natCast]
set_option maxRecDepth 100000 in
theorem flN_bytes (n : Nat) : (flN (n : Int)).bytes = Leb.enc n := by
  unfold Fl.bytes Fl.head Fl.body flN numOf strOf
  simp

set_option maxRecDepth 100000 in
theorem flOf_bytes (c : Sto.Ch) : allBytes (flOf c) = Sto.enc1 c := by
  unfold allBytes flOf Sto.enc1
  cases c.gone
  · have := flN_bytes 0
    simp only [Bool.false_eq_true, if_false, List.flatMap_cons, List.flatMap_nil, flT_bytes, List.append_nil]
    rw [show (flN 0).bytes = Leb.enc 0 from this]
    try simp [List.append_assoc]
  · have := flN_bytes 1
    simp only [if_true, List.flatMap_cons, List.flatMap_nil, flT_bytes, List.append_nil]
    rw [show (flN 1).bytes = Leb.enc 1 from this]

set_option maxRecDepth 100000 in
theorem flAll_bytes (cs : List Sto.Ch) : allBytes (flAll cs) = Sto.rec cs := by
  unfold allBytes flAll Sto.rec
  rw [List.flatMap_assoc]
  congr 1
  funext c
  exact flOf_bytes c

set_option maxRecDepth 100000 in
theorem flOf_mem {cs : List Sto.Ch} {f : Fl} (h : f ∈ flAll cs) : (∃ c ∈ cs, f = flT c.key ∨ f = flT c.val) ∨ f = flN 0 ∨ f = flN 1 := by
  obtain ⟨c, hc, hf⟩ := List.mem_flatMap.1 h
  unfold flOf at hf
  split at hf
  · simp only [List.mem_cons, List.not_mem_nil, or_false] at hf
    rcases hf with rfl | rfl
    · exact Or.inl ⟨c, hc, Or.inl rfl⟩
    · exact Or.inr (Or.inr rfl)
  · simp only [List.mem_cons, List.not_mem_nil, or_false] at hf
    rcases hf with rfl | rfl | rfl
    · exact Or.inl ⟨c, hc, Or.inl rfl⟩
    · exact Or.inr (Or.inl rfl)
    · exact Or.inl ⟨c, hc, Or.inr rfl⟩

def recOf (cs : List Sto.Ch) : List UInt8 × Int := if 65536 < (Sto.rec cs).length then ([], 4) else (Sto.rec cs, 0)

set_option maxRecDepth 100000 in
theorem flAll_lay (cs : List Sto.Ch) : layOf (flAll cs) = recOf cs := by
  unfold layOf recOf
  rw [if_neg, flAll_bytes]
  rw [List.any_eq_true]
  rintro ⟨f, hf, hn⟩
  have hn : f.head < 0 := by simpa using hn
  rcases flOf_mem hf with ⟨c, _, rfl | rfl⟩ | rfl | rfl
  · unfold Fl.head flT numOf at hn; simp at hn; omega
  · unfold Fl.head flT numOf at hn; simp at hn; omega
  · unfold Fl.head flN numOf at hn; simp at hn
  · unfold Fl.head flN numOf at hn; simp at hn

set_option maxRecDepth 100000 in
theorem flAll_fits {cs : List Sto.Ch} (h : ∀ c ∈ cs, Sto.May c) : Fits (flAll cs) := by
  intro i f hf
  rcases flOf_mem (List.mem_of_getElem? hf) with ⟨c, hc, rfl | rfl⟩ | rfl | rfl
  · have := (h c hc).2.1
    unfold Fl.head Fl.body flT numOf strOf
    simp only [if_true, mk_len]
    omega
  · have := (h c hc).2.2.1
    unfold Fl.head Fl.body flT numOf strOf
    simp only [if_true, mk_len]
    omega
  · unfold Fl.head Fl.body flN numOf strOf
    simp; decide
  · unfold Fl.head Fl.body flN numOf strOf
    simp; decide

set_option maxRecDepth 100000 in
theorem flOf_len (c : Sto.Ch) : 2 ≤ (flOf c).length ∧ (flOf c).length ≤ 3 := by
  unfold flOf
  cases c.gone <;> simp

set_option maxRecDepth 100000 in
theorem flAll_len : ∀ (cs : List Sto.Ch), (flAll cs).length ≤ 3 * cs.length ∧ cs.length ≤ (flAll cs).length
  | [] => by simp [flAll]
  | c :: cs => by
    have h1 := flAll_len cs
    have h2 := flOf_len c
    unfold flAll at h1 ⊢
    rw [List.flatMap_cons, List.length_append, List.length_cons]
    omega

set_option maxRecDepth 100000 in
theorem flAll_take (cs : List Sto.Ch) (k : Nat) (c : Sto.Ch) (h : cs[k]? = some c) : flAll (cs.take (k + 1)) = flAll (cs.take k) ++ flOf c := by
  obtain ⟨hl, he⟩ := List.getElem?_eq_some_iff.1 h
  rw [List.take_succ_eq_append_getElem hl, he]
  simp [flAll]

set_option maxRecDepth 100000 in
theorem fieldInfo : (Tryz.prog.info? 144).map (fun i => (i.zero, i.size, i.bytes)) = some (some (.agg #[.int .i64 0, .string ⟨#[]⟩, .bool false]), 3, 32) := by kernel_rfl

set_option maxRecDepth 100000 in
/-- A slice that was just made. -/
theorem Rws.made {α : Type} {k : Nat} {f : α → List Value} (w : World) (t : TypeId) (l : List α) (hk : ∀ x ∈ l, (f x).length = k) :
    Rws k f (w.alloc (.cells (l.flatMap f).toArray t)) (fun i => i = w.heap.size) (.slice (some ⟨w.heap.size, 0, Option.none⟩) l.length l.length) l := by
  refine ⟨_, _, rfl, Nat.le_refl _, fun _ => ⟨w.heap.size, 0, rfl, rfl, by simp, fun i x hx j u hu => ?_⟩⟩
  have hr := rows_at l hk i x hx j u hu
  rw [(Row.made w _ _).at, Nat.zero_add]
  simpa using hr

set_option maxRecDepth 100000 in
theorem fields_at {w : World} {F : Nat → Prop} {b cap : Nat} {fs : List Fl} (h : Rws 3 fl3 w F (.slice (some ⟨b, 0, none⟩) fs.length cap) fs) (h0 : 0 < fs.length) : FieldsAt w b 0 fs := by
  intro i f hf
  obtain ⟨A, c, e, -, hat⟩ := h
  injection e with e1 e2 e3
  obtain ⟨b', o', e, -, -, hc⟩ := hat h0
  rw [e] at e1
  injection e1 with e1
  injection e1 with e1 e2
  subst e1 e2
  exact ⟨hc i f hf 0 _ rfl, hc i f hf 1 _ rfl, hc i f hf 2 _ rfl⟩

/-- While the fields are laid one behind the other. -/
structure RecAt (w : World) (cs : List Sto.Ch) (k : Nat) (v : Value) (wr : World) : Prop where
  own : wr.ownsRow w.heap.size 144 3 v (flAll (cs.take k)).length ((flAll (cs.take k)).flatMap fl3)
  bel : Below w.heap.size w wr

set_option maxRecDepth 100000 in
theorem RecAt.more {w wr w2 w3 : World} {cs : List Sto.Ch} {k : Nat} {c : Sto.Ch} {v v' : Value} (h : RecAt w cs k v wr) (hc : cs[k]? = some c) (hb : Below wr.heap.size wr w2) (hg : w2.grownBy w3 v.ownBlock)
    {n : Nat} {xs : List Value} (hown : w3.ownsRow w.heap.size 144 3 v' n xs) (hn : n = (flAll (cs.take k)).length + (flOf c).length) (hx : xs = (flAll (cs.take k)).flatMap fl3 ++ (flOf c).flatMap fl3) : RecAt w cs (k + 1) v' w3 := by
  refine ⟨?_, ?_⟩
  · rw [flAll_take cs k c hc, List.length_append, List.flatMap_append, ← hn, ← hx]
    exact hown
  · have hb2 := h.bel.trans (hb.mono h.bel.size)
    refine hb2.grown hg hb2.size (fun j hj => (h.own.lt j hj).1)

set_option maxRecDepth 100000 in
set_option maxHeartbeats 3200000 in
theorem sto_record {w : World} {G : Nat → Prop} {cv : Value} {cs : List Sto.Ch} (h : Changes w G cv cs) (h0 : cs ≠ []) (hl : cs.length ≤ 1024) (hm : ∀ c ∈ cs, Sto.May c) :
    Calls Tryz.prog 67 #[cv] w fun e w' => e = .returned (.tuple #[.string (mk (recOf cs).1), .int .i64 (recOf cs).2]) ∧ Below w.heap.size w w' := by
  have hp : 0 < cs.length := List.length_pos_iff.2 h0
  obtain ⟨b, o, cap, rfl, -, hG, hlt⟩ := h.shape hp
  obtain ⟨i0, hi, hz0, hz1, hz2⟩ := info_parts fieldInfo
  have hL : (cs.length : Int) ≤ 1024 := by omega
  have Hl := Lib.hid hl
  have Hc := Lib.hid (fun (w' : World) (hb : Below w.heap.size w w') => h.below hb)
  have hfin : Hid (∀ (wr : World) (v : Value), RecAt w cs cs.length v wr → ∃ g c, v = .slice (some ⟨g, 0, none⟩) (flAll cs).length c ∧ Calls Tryz.prog 97 #[v] wr fun e w' => e = .returned (.tuple #[.string (mk (recOf cs).1), .int .i64 (recOf cs).2]) ∧ Below w.heap.size w w') := Lib.hid (by
    intro wr v hr
    have hown := hr.own
    rw [List.take_length] at hown
    have hfl := flAll_len cs
    obtain ⟨g, c, rfl, hg0, hgl⟩ := hown.form (by omega)
    have hrw := Rws.ofOwn (F := fun _ => True) hown rfl (fun x _ => fl3_len x) (fun _ _ _ _ => trivial)
    refine ⟨g, c, rfl, (lay_any (fields_at hrw (by omega)) hgl (by omega) (flAll_fits hm)).mono ?_⟩
    rintro e w' ⟨rfl, hb⟩
    rw [flAll_lay]
    exact ⟨rfl, hr.bel.trans (hb.mono hr.bel.size)⟩)
  have Hcap : Hid (∀ k, (flAll (cs.take k)).length ≤ 3072) := Lib.hid (fun k => by
    have h1 := (flAll_len (cs.take k)).1
    have h2 : (cs.take k).length ≤ cs.length := by rw [List.length_take]; omega
    omega)
  clear h h0 hl hm hp
  go_enter Tryz.func67, Tryz.ntmps67
  go_wp2_with fail
  go_loopw [4, 9] (fun v i wr => ∃ k : Nat, k ≤ cs.length ∧ i = .int .i64 k ∧ RecAt w cs k v wr) (fun _ i _ => cs.length - (intOf i).toNat)
  case atStart => exact ⟨0, Nat.zero_le _, rfl, by simpa [flAll] using World.ownsRow_nil _ _ _ _, Below.refl _ _⟩
  case round =>
    obtain ⟨k, hk, rfl, hrec⟩ := hrel
    by_cases hlt2 : k < cs.length
    · obtain ⟨c, hc⟩ : ∃ c, cs[k]? = some c := ⟨cs[k], List.getElem?_eq_getElem hlt2⟩
      obtain ⟨c0, c1, c2⟩ := Changes.at (Hc.out wr hrec.bel) hc
      have hcap := Hcap.out k
      obtain ⟨key, val, gone⟩ := c
      have hbox := Row.made wr 52 #[.string (mk key), .string (mk val), .bool gone]
      have hb0 : Below wr.heap.size wr (wr.alloc (.cells #[.string (mk key), .string (mk val), .bool gone] 52)) := (Below.refl _ _).alloc (Nat.le_refl _) _
      have hs0 : wr.heap.size ≤ (wr.alloc (.cells #[.string (mk key), .string (mk val), .bool gone] 52)).heap.size := hb0.size
      have Hrec := Lib.hid hrec
      have HC := Lib.hid hc
      have Hb0 := Lib.hid hb0
      clear hc hrec hb0
      cases gone
      · have Hbox := Lib.hid hbox
        clear hbox hs0
        go_wp2_with fail
        refine wp_region_held_drew (S := (fun w' : World => Row w' wr.heap.size 52 #[.string (mk key), .string (mk val), .bool false])) (by kernel_rfl) (Hbox.out) (fun hHeld => ?_)
        refine wpAnyH_take (i := 0) (v := ?_) rfl (by kernel_rfl) (by kernel_rfl) (by kernel_rfl) (fun _ _ _ h => h) (Or.inl ⟨by rfl, (by intro w hSw; go_simp; try with_reducible rfl)⟩) (by assumption) ?_
        simp only [Act.put, List.getElem_toArray, List.getElem_cons_zero, List.getElem_cons_succ, List.setIfInBounds_toArray, List.set_cons_zero, List.set_cons_succ]
        refine wpAnyH_take (i := 1) (v := ?_) rfl (by kernel_rfl) (by kernel_rfl) (by kernel_rfl) (fun _ _ _ h => h) (Or.inl ⟨by rfl, (by intro w hSw; go_simp; try with_reducible rfl)⟩) (by assumption) ?_
        simp only [Act.put, List.getElem_toArray, List.getElem_cons_zero, List.getElem_cons_succ, List.setIfInBounds_toArray, List.set_cons_zero, List.set_cons_succ]
        refine wpAnyH_take (i := 2) (v := ?_) rfl (by kernel_rfl) (by kernel_rfl) (by kernel_rfl) (fun _ _ _ h => h) (Or.inl ⟨by rfl, (by intro w hSw; have c0 := hSw.at 0; have c1 := hSw.at 1; go_simp; try with_reducible rfl)⟩) (by assumption) ?_
        simp only [Act.put, List.getElem_toArray, List.getElem_cons_zero, List.getElem_cons_succ, List.setIfInBounds_toArray, List.set_cons_zero, List.set_cons_succ]
        refine wpAnyH_take (i := 5) (v := ?_) rfl (by kernel_rfl) (by kernel_rfl) (by kernel_rfl) (fun _ _ _ h => h) (Or.inl ⟨by rfl, (by intro w hSw; go_simp; try with_reducible rfl)⟩) (by assumption) ?_
        simp only [Act.put, List.getElem_toArray, List.getElem_cons_zero, List.getElem_cons_succ, List.setIfInBounds_toArray, List.set_cons_zero, List.set_cons_succ]
        refine wpAnyH_take (i := 6) (v := ?_) rfl (by kernel_rfl) (by kernel_rfl) (by kernel_rfl) (fun _ _ _ h => h) (Or.inl ⟨by rfl, (by intro w hSw; have c0 := hSw.at 0; have c1 := hSw.at 1; go_simp; try with_reducible rfl)⟩) (by assumption) ?_
        simp only [Act.put, List.getElem_toArray, List.getElem_cons_zero, List.getElem_cons_succ, List.setIfInBounds_toArray, List.set_cons_zero, List.set_cons_succ]
        refine wpAnyH_ready (rs := [3]) (by kernel_rfl) (by simp) ?_
        refine AllReadyH.cons rfl (fun K hK => ?_) AllReadyH.nil
        go_simp
        go_at_call 95
        refine (field_t _ _).mono ?_
        rintro e w3 ⟨rfl, hb⟩
        have hB3 := Hb0.out.drew.trans (hb.mono Hb0.out.size)
        have hrow := Row.below hHeld hb hHeld.inHeap
        clear hb
        refine hK.out _ _ hrow (fun hHeld => ?_)
        clear hrow
        clear hK K
        refine wpAnyH_ready (rs := [4]) (by kernel_rfl) (by simp) ?_
        refine AllReadyH.cons rfl (fun K hK => ?_) AllReadyH.nil
        go_simp
        go_at_call 96
        refine (field_n _ _).mono ?_
        rintro e w4 ⟨rfl, hb⟩
        have hB4 := hB3.trans (hb.mono hB3.size)
        have hrow := Row.below hHeld hb hHeld.inHeap
        clear hb
        refine hK.out _ _ hrow (fun hHeld => ?_)
        clear hrow
        clear hK K
        refine wpAnyH_ready (rs := [7]) (by kernel_rfl) (by simp) ?_
        refine AllReadyH.cons rfl (fun K hK => ?_) AllReadyH.nil
        go_simp
        go_at_call 95
        refine (field_t _ _).mono ?_
        rintro e w7 ⟨rfl, hb⟩
        have hB7 := hB4.trans (hb.mono hB4.size)
        have hrow := Row.below hHeld hb hHeld.inHeap
        clear hb
        refine hK.out _ _ hrow (fun hHeld => ?_)
        clear hrow
        clear hK K
        refine wpAnyH_ready (rs := [8]) (by kernel_rfl) (by simp) ?_
        refine AllReadyH.cons rfl (fun K hK => ?_) AllReadyH.nil
        go_simp
        have own8 := (own_below Hrec.out.own hB7).alloc (.cells ([flT key, flN 0, flT val].flatMap fl3).toArray 144)
        have hz8 : w.heap.size ≤ w7.heap.size + 1 := (by have := Hrec.out.bel.size; have := hB7.size; omega)
        have hrow := Row.behindNew hHeld (.cells ([flT key, flN 0, flT val].flatMap fl3).toArray 144)
        refine hK.out _ _ hrow (fun hHeld => ?_)
        clear hrow
        clear hK K
        refine wpAnyH_ready (rs := [9]) (by kernel_rfl) (by simp) ?_
        refine AllReadyH.cons rfl (fun K hK => ?_) AllReadyH.nil
        refine step_joins rfl (.tmp 22) (.tmp 30) 142 (by rfl) w.heap.size 144 i0 (.agg #[.int .i64 0, .string ⟨#[]⟩, .bool false]) 32 Tryz.underlying142 hi hz0 hz1 hz2 rfl (by decide) (by rfl) (by rfl) own8 (Rws.made (f := fl3) w7 144 [flT key, flN 0, flT val] (fun x _ => fl3_len x)) (fun x _ => fl3_len x) (fun x _ => fl3_one x) ?a1 ?a2 ?a3 ?_
        case a1 => (simp only [List.length_cons, List.length_nil]; unfold maxLen; omega)
        case a2 => (simp only [List.length_cons, List.length_nil]; omega)
        case a3 => (simp; omega)
        intro v9 w9 own9 hg9
        have Hmore := Lib.hid (RecAt.more Hrec.out HC.out (hB7.alloc hB7.size _) hg9 own9 rfl rfl)
        have hrow := Row.kept hHeld (Kept.ofGrown (F := fun i => u4.ownBlock = some i) hg9 (fun i e => e)) (fun e => by have := (Hrec.out.own.lt _ e).2; omega)
        clear own9 hg9
        refine hK.out _ _ hrow (fun hHeld => ?_)
        clear hrow
        clear hK K
        refine wpAnyH_take (i := 10) (v := ?_) rfl (by kernel_rfl) (by kernel_rfl) (by kernel_rfl) (fun _ _ _ h => h) (Or.inl ⟨by rfl, (by intro w hSw; go_simp; try with_reducible rfl)⟩) (by assumption) ?_
        simp only [Act.put, List.getElem_toArray, List.getElem_cons_zero, List.getElem_cons_succ, List.setIfInBounds_toArray, List.set_cons_zero, List.set_cons_succ]
        refine wpAnyH_done (by kernel_rfl) ?_ _
        clear hHeld hB3 hB4 hB7 own8
        go_wp2_with fail
        go_roundw
        case rel => exact ⟨k + 1, by omega, by go_num, Hmore.out⟩
        case measure => simp [intOf]; omega
      · clear hbox
        go_wp2_with (first
          | (go_at_call 95; refine (field_t _ _).mono ?_; rintro e w1 ⟨rfl, hb1⟩; have hB1 := Hb0.out.trans (hb1.mono Hb0.out.size); clear hb1)
          | (go_at_call 96; refine (field_n _ _).mono ?_; rintro e w2 ⟨rfl, hb2⟩; have hB2 := hB1.trans (hb2.mono hB1.size); have own2 := (own_below Hrec.out.own hB2).alloc (.cells ([flT key, flN 1].flatMap fl3).toArray 144); have hz2' : w.heap.size ≤ w2.heap.size + 1 := (by have := Hrec.out.bel.size; have := hB2.size; omega); clear hb2)
          | (at_builtin; refine wp_join rfl _ _ 142 rfl w.heap.size 144 i0 (.agg #[.int .i64 0, .string ⟨#[]⟩, .bool false]) 32 Tryz.underlying142 hi hz0 hz1 hz2 rfl (by decide) rfl rfl own2 (Rws.made (f := fl3) w2 144 [flT key, flN 1] (fun x _ => fl3_len x)) (fun x _ => fl3_len x) (fun x _ => fl3_one x) ?a1 ?a2 ?a3 ?_; (case a1 => (simp only [List.length_cons, List.length_nil]; unfold maxLen; omega)); (case a2 => (simp only [List.length_cons, List.length_nil]; omega)); (case a3 => (simp; omega)); intro v3 w3 own3 hg3; have Hmore := Lib.hid (RecAt.more Hrec.out HC.out (hB2.alloc hB2.size _) hg3 own3 rfl rfl); clear own3 hg3))
        go_roundw
        case rel => exact ⟨k + 1, by omega, by go_num, Hmore.out⟩
        case measure => simp [intOf]; omega
    · obtain rfl : k = cs.length := by omega
      obtain ⟨g, c, rfl, hlay⟩ := hfin.out _ _ hrec
      have HL := Lib.hid hlay
      clear hlay hrec
      go_wp2_with (go_at_call 97; refine HL.out.mono ?_; rintro e w' ⟨rfl, hb⟩)
      go_ret2
      exact ⟨rfl, hb⟩
end Go.Proofs.YtbfjageaheijbaaGreat
/- A text is copied by the library's Clone: the same bytes, in new memory; the reader's T. -/
namespace Go.Proofs.YtbfjageaheijbaaGreat
open Go.RowKit


set_option maxRecDepth 100000 in
theorem byteCellsOf : Tryz.prog.cellsOf 5 = 1 := by kernel_rfl

set_option maxRecDepth 100000 in
set_option maxHeartbeats 1000000 in
theorem inner_clone (s : ByteArray) (w : World) (hlim : s.size ≤ 281474976710656) :
    Calls Tryz.prog 113 #[.string s] w fun e w' => e = .returned (.string s) ∧ Below w.heap.size w w' := by
  rcases Nat.eq_zero_or_pos s.size with hz | hpos
  · obtain rfl : s = ⟨#[]⟩ := ByteArray.ext (Array.eq_empty_of_size_eq_zero hz)
    clear hz
    go_enter Tryz.func113, Tryz.ntmps113
    go_wp2
    go_ret
    exact ⟨rfl, Below.refl _ _⟩
  · obtain ⟨info, hinfo, hzero, hsize, hbytes⟩ := info_parts byteInfo
    -- the row that is made, by a name of its own
    obtain ⟨blank, hblank⟩ : ∃ blank, blank = madeCells (Value.int .u8 0).cells (((s.size : Nat) : Int).toNat * info.size) := ⟨_, rfl⟩
    have hmake : ∀ V : World, (Instr.makeSlice 99 (.int .i64 (s.size : Int)) (.int .i64 (s.size : Int))).run Tryz.prog V = .ok (.slice (some ⟨V.heap.size, 0, none⟩) s.size s.size) (V.alloc (.cells blank 5)) := by
      intro V
      have := run_make (P := Tryz.prog) V 99 5 info (.int .u8 0) Tryz.underlying99 hinfo hzero .i64 .i64 (s.size : Int) (s.size : Int) (by omega) (by omega) (by rw [hbytes]; omega) (by omega)
      rw [← hblank] at this
      simpa using this
    have hbs : blank.size = s.size := by rw [hblank, size_madeCells, hsize]; simp
    clear hblank
    generalize hw1 : w.alloc (.cells blank 5) = w1
    have hrow : w1.heap[w.heap.size]? = some (.cells blank 5 (0, 0)) := by rw [← hw1]; exact heap_alloc_new w _
    have hcopy := Lib.run_copy_row_string (P := Tryz.prog) w1 99 9 3 5 w.heap.size 0 s.size s.size s blank 5 Tryz.underlying99
      (by rw [hinfo]; simp [hsize]) hrow (Nat.le_refl _) (by omega)
    obtain ⟨full, hfull⟩ : ∃ full, full = (blank.toList.take 0 ++ Lib.byteCells s.data.toList ++ blank.toList.drop (0 + s.size)).toArray := ⟨_, rfl⟩
    rw [← hfull] at hcopy
    have hlist : full.toList = Lib.byteCells s.data.toList := by
      rw [hfull]
      simp only [List.take_zero, List.nil_append, Nat.zero_add]
      rw [List.drop_of_length_le (by rw [Array.length_toList]; omega), List.append_nil]
    have hfs : full.size = s.size := by rw [← Array.length_toList, hlist, Lib.byteCells_length, ← Lib.size_eq]
    clear hfull
    have hrow2 : (w1.setRow w.heap.size full).heap[w.heap.size]? = some (.cells full 5 (0, 0)) := setRow_heap _ _ blank _ _ _ hrow
    have hne : s.data.toList ≠ [] := by
      intro h
      have := Lib.size_eq s
      rw [h] at this
      simp only [List.length_nil] at this
      omega
    have hstr := Lib.run_unsafeString_row (P := Tryz.prog) (w1.setRow w.heap.size full) 184 3 9 5 Tryz.underlying184 byteCellsOf w.heap.size full.size
      (by unfold World.shape?; rw [hrow2]) s.data.toList hne (by rw [← Lib.size_eq]; omega) (by rw [← Lib.size_eq]; omega)
      (fun j x hx => Lib.cells_of_row hrow2 full.size j _ (by rw [List.take_of_length_le (by rw [Array.length_toList]; exact Nat.le_refl _), hlist]; simp [Lib.byteCells, hx]))
    rw [← Lib.size_eq] at hstr
    have hb : Below w.heap.size w ((w1.setRow w.heap.size full).freeze ⟨w.heap.size, 0, none⟩ s.size) := by
      refine Lib.below_freeze (B := w.heap.size) ?_ (p := ⟨w.heap.size, 0, none⟩) (Nat.le_refl _) _
      refine Below.trans (b := w1) (by rw [← hw1]; exact (Below.refl _ w).alloc (Nat.le_refl _) _) ⟨rfl, rfl, rfl, by simp, fun k hk => setRow_other _ _ _ _ (by omega)⟩
    have Hb := Lib.hid hb
    clear hb hlist hfs hrow hrow2 hne hbs
    subst hw1
    go_enter Tryz.func113, Tryz.ntmps113
    go_wp2
    go_ret
    exact ⟨rfl, Hb.out⟩

set_option maxRecDepth 100000 in
theorem clone_any (s : ByteArray) (w : World) (hlim : s.size ≤ 281474976710656) :
    Calls Tryz.prog 90 #[.string s] w fun e w' => e = .returned (.string s) ∧ Below w.heap.size w w' := by
  go_enter Tryz.func90, Tryz.ntmps90
  go_wp2_with (go_at_call 113; refine (inner_clone _ _ hlim).mono ?_; rintro e w' ⟨rfl, hb⟩)
  go_ret
  exact ⟨rfl, hb⟩

def TPost (w : World) (b : Nat) (t l : List UInt8) (e0 : Int) (e : Ending) (w' : World) : Prop :=
  e = .returned (.string ⟨t.toArray⟩) ∧ RdL w' b l e0 ∧ w.grownBy w' (some b)

set_option maxRecDepth 100000 in
/-- T behind its N, by what N left. -/
theorem t_of {w : World} {b n : Nat} {l1 : List UInt8} {e1 : Int} (hm : l1.length ≤ 281474976710656) (hn : n < 9223372036854775808)
    (hN : Calls Tryz.prog 88 #[.pointer (some ⟨b, 0, none⟩)] w (NPost w b n l1 e1)) :
    Calls Tryz.prog 87 #[.pointer (some ⟨b, 0, none⟩)] w
      (if e1 = 0 then (if l1.length < n then TPost w b [] [] 5 else TPost w b (l1.take n) (l1.drop n) 0) else TPost w b [] l1 e1) := by
  have HN := Lib.hid hN
  clear hN
  by_cases he : e1 = 0
  · rw [if_pos he]
    subst he
    by_cases hlt : l1.length < n
    · rw [if_pos hlt]
      have hsz : (⟨l1.toArray⟩ : ByteArray).size < n := by rw [mk_size]; exact hlt
      clear hlt
      go_enter Tryz.func87, Tryz.ntmps87
      go_wp2_with (first
        | (go_at_call 88; refine (HN.out).mono ?_; rintro e w1 ⟨rfl, h1, h2⟩; have c0 : w1.cell? ⟨b, 0, none⟩ = some (.string ⟨l1.toArray⟩) := Row.at h1 0)
        | (go_at_call 61; refine (err_any h1).mono ?_; rintro e w' ⟨rfl, rfl⟩)
        | (go_at_call 110; refine (fail_any h1 _).mono ?_; rintro e w' ⟨rfl, h3, h4⟩))
      go_ret
      exact ⟨rfl, rd_list h3 rfl, gb_trans h2 h4⟩
    · rw [if_neg hlt]
      have hsz : ¬ (⟨l1.toArray⟩ : ByteArray).size < n := by rw [mk_size]; exact hlt
      have hsz2 : n ≤ (⟨l1.toArray⟩ : ByteArray).size := by omega
      have hsz3 : (⟨l1.toArray⟩ : ByteArray).size ≤ 281474976710656 := by rw [mk_size]; exact hm
      clear hlt hm
      have hn2 : Calls Tryz.prog 88 #[.pointer (some ⟨b, 0, none⟩)] w (fun e w' => e = .returned (.int .i64 n) ∧ Rd w' b ⟨l1.toArray⟩ 0 ∧ w.grownBy w' (some b)) := HN.out
      have hd : (⟨l1.toArray⟩ : ByteArray).data.toList = l1 := rfl
      have Hd := Lib.hid hd
      have HN2 := Lib.hid hn2
      clear hd hn2 HN
      generalize (⟨l1.toArray⟩ : ByteArray) = r at *
      go_enter Tryz.func87, Tryz.ntmps87
      go_wp2_with (first
        | (go_at_call 88; refine (HN2.out).mono ?_; rintro e w1 ⟨rfl, h1, h2⟩; have c0 : w1.cell? ⟨b, 0, none⟩ = some (.string r) := Row.at h1 0)
        | (go_at_call 61; refine (err_any h1).mono ?_; rintro e w' ⟨rfl, rfl⟩)
        | (go_at_call 90; refine (clone_any _ _ (by simp; omega)).mono ?_; rintro e w2 ⟨rfl, hb⟩; have h3 : Rd w2 b r 0 := Row.below h1 hb (Row.inHeap h1); have c2 : w2.cell? ⟨b, 0, none⟩ = some (.string r) := Row.at h3 0; have f2 := Row.free h3 0; have h4 := Row.stored h3 0 (.string (r.extract n r.size))))
      go_ret
      refine ⟨?_, rd_list (r := r.extract n r.size) (by unfold Rd; simpa using h4) (by rw [cut_data, Hd.out]), gb_store (gb_trans h2 (gb_below hb _)) 0 _⟩
      have : r.extract 0 n = ⟨(l1.take n).toArray⟩ := bytes_ext (by rw [Lib.extract_data, Hd.out]; simp)
      show Ending.returned (.string (r.extract 0 n)) = _
      rw [this]
  · rw [if_neg he]
    have hne : (e1 != 0) = true := by simp [he]
    clear he
    go_enter Tryz.func87, Tryz.ntmps87
    go_wp2_with (first
      | (go_at_call 88; refine (HN.out).mono ?_; rintro e w' ⟨rfl, h1, h2⟩)
      | (go_at_call 61; refine (err_any h1).mono ?_; rintro e w' ⟨rfl, rfl⟩))
    go_ret
    exact ⟨rfl, h1, h2⟩

set_option maxRecDepth 100000 in
theorem t_any {w : World} {b : Nat} {l : List UInt8} {e0 : Int} (h : RdL w b l e0) (hm : l.length ≤ 281474976710656) :
    Calls Tryz.prog 87 #[.pointer (some ⟨b, 0, none⟩)] w (TPost w b (stepT l e0).1 (stepT l e0).2.1 (stepT l e0).2.2) := by
  have hN := n_any h hm
  have hff := Leb.first_fits l
  by_cases he : e0 = 0
  · by_cases hf : (Leb.first l).2.2 = 0
    · have hs : stepN l e0 = ((Leb.first l).1, l.drop (Leb.first l).2.1, 0) := by simp [stepN, hf, he]
      rw [hs] at hN
      have ht := t_of (by rw [List.length_drop]; omega) hff.1 hN
      rw [if_pos rfl, List.length_drop] at ht
      by_cases hl : l.length - (Leb.first l).2.1 < (Leb.first l).1
      · rw [if_pos hl] at ht
        have : stepT l e0 = ([], [], 5) := by simp [stepT, he, Leb.second, hf, hl]
        rw [this]; exact ht
      · rw [if_neg hl] at ht
        have : stepT l e0 = ((l.drop (Leb.first l).2.1).take (Leb.first l).1, (l.drop (Leb.first l).2.1).drop (Leb.first l).1, 0) := by
          simp [stepT, he, Leb.second, hf, hl]
        rw [this]; exact ht
    · have hs : stepN l e0 = (0, [], (Leb.first l).2.2) := by simp [stepN, hf, he]
      rw [hs] at hN
      have ht := t_of (by simp) (by omega) hN
      rw [if_neg hf] at ht
      have : stepT l e0 = ([], [], (Leb.first l).2.2) := by simp [stepT, he, Leb.second, hf]
      rw [this]; exact ht
  · have hs : stepN l e0 = (0, l, e0) := by simp [stepN, he]
    rw [hs] at hN
    have ht := t_of hm (by omega) hN
    rw [if_neg he] at ht
    have : stepT l e0 = ([], l, e0) := by simp [stepT, he]
    rw [this]; exact ht
end Go.Proofs.YtbfjageaheijbaaGreat
