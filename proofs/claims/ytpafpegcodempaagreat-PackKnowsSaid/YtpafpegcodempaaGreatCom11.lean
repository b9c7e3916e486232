import Derived.Test.YtpafpegcodempaaGreatCom3
import Derived.Test.YtpafpegcodempaaGreatCom4
import Derived.Test.YtpafpegcodempaaGreatCom5
import Derived.Test.YtpafpegcodempaaGreatCom7
import Derived.Test.YtpafpegcodempaaGreatCom10
import Derived.Laws.StructEq
set_option maxRecDepth 100000
set_option linter.all false
set_option maxHeartbeats 12800000
namespace Go.Proofs.YtpafpegcodempaaGreat.Iset
open Ver (V sort Up)
def join (a b : List V) : List V := sort (a ++ b)
def meet (a b : List V) : List V := sort (a.filter fun x => decide (x ∈ b))
def minus (a b : List V) : List V := sort (a.filter fun x => decide (x ∉ b))
def put (l : List V) (x : V) : List V := Ver.put (sort l) x
def drop (l : List V) (x : V) : List V := minus l [x]
def Within (a b : List V) : Prop := ∀ x ∈ a, x ∈ b
instance (a b : List V) : Decidable (Within a b) := inferInstanceAs (Decidable (∀ x ∈ a, _))
theorem meet_mem {a b : List V} {x : V} : x ∈ meet a b ↔ x ∈ a ∧ x ∈ b := by unfold meet; rw [Ver.sort_mem, List.mem_filter]; simp
theorem minus_mem {a b : List V} {x : V} : x ∈ minus a b ↔ x ∈ a ∧ x ∉ b := by unfold minus; rw [Ver.sort_mem, List.mem_filter]; simp
theorem put_mem {l : List V} {x y : V} : y ∈ put l x ↔ y = x ∨ y ∈ l := by unfold put; rw [Ver.put_mem, Ver.sort_mem]
theorem put_up (l : List V) (x : V) : Up (put l x) := Ver.put_up (Ver.sort_up _) x
theorem up_empty {l : List V} : l = [] ↔ ∀ x, x ∉ l := by
 cases l with
 | nil => simp
 | cons a l =>
  constructor
  ·intro h; cases h
  ·intro h; exact absurd (List.mem_cons_self ..) (h a)
theorem sort_more (l : List V) (x : V) : sort (l ++ [x]) = Ver.put (sort l) x := by
 unfold sort
 rw [List.foldl_append]
 rfl
theorem put_len (l : List V) (x : V) : (put l x).length ≤ l.length + 1 := by
 have := Ver.put_len (sort l) x
 have := Ver.sort_len l
 unfold put
 omega
theorem apart (a b : List V) : meet (minus a b) b = [] := by
 rw [up_empty]
 intro x hx
 have := meet_mem.1 hx
 exact (minus_mem.1 this.1).2 this.2
theorem put_is (l : List V) (x : V) : sort (l ++ [x]) = put l x := by unfold put; rw [sort_more]
theorem half_up {m : List V} {y x : V} {i : Nat} (h : Up m) (hy : m[i]? = some y) (hb : Ver.Before y x) : Up (m.drop (i + 1)) ∧ (x ∈ m ↔ x ∈ m.drop (i + 1)) := by
 have e : m.take (i + 1) ++ m.drop (i + 1) = m := List.take_append_drop _ _
 refine ⟨List.Pairwise.sublist (List.drop_sublist _ _) h, ?_⟩
 constructor
 ·intro hx
  obtain ⟨j, hj⟩ := List.getElem?_of_mem hx
  rcases Nat.lt_or_ge i j with hlt | hge
  ·refine List.mem_of_getElem? (i := j - (i + 1)) ?_
   rw [List.getElem?_drop, show i + 1 + (j - (i + 1)) = j by omega]
   exact hj
  ·exfalso
   rcases Nat.lt_or_ge j i with hji | hji
   ·obtain ⟨h1, e1⟩ := List.getElem?_eq_some_iff.1 hj
    obtain ⟨h2, e2⟩ := List.getElem?_eq_some_iff.1 hy
    have := List.pairwise_iff_getElem.1 h j i h1 h2 hji
    rw [e1, e2] at this
    exact Ver.before_asymm hb this
   ·have : j = i := by omega
    subst this
    rw [hy] at hj
    injection hj with hj
    rw [hj] at hb
    exact Ver.before_irrefl x hb
 ·exact fun hx => List.mem_of_mem_drop hx
theorem half_low {m : List V} {y x : V} {i : Nat} (h : Up m) (hy : m[i]? = some y) (hb : Ver.Before x y) : Up (m.take i) ∧ (x ∈ m ↔ x ∈ m.take i) := by
 refine ⟨List.Pairwise.sublist (List.take_sublist _ _) h, ?_⟩
 constructor
 ·intro hx
  obtain ⟨j, hj⟩ := List.getElem?_of_mem hx
  rcases Nat.lt_or_ge j i with hlt | hge
  ·refine List.mem_of_getElem? (i := j) ?_
   rw [List.getElem?_take, if_pos hlt]
   exact hj
  ·exfalso
   rcases Nat.lt_or_ge i j with hji | hji
   ·obtain ⟨h1, e1⟩ := List.getElem?_eq_some_iff.1 hj
    obtain ⟨h2, e2⟩ := List.getElem?_eq_some_iff.1 hy
    have := List.pairwise_iff_getElem.1 h i j h2 h1 hji
    rw [e1, e2] at this
    exact Ver.before_asymm hb this
   ·have : j = i := by omega
    subst this
    rw [hy] at hj
    injection hj with hj
    rw [hj] at hb
    exact Ver.before_irrefl x hb
 ·exact fun hx => List.mem_of_mem_take hx
theorem half_here {m : List V} {y x : V} {i : Nat} (hy : m[i]? = some y) (h1 : ¬ Ver.Before y x) (h2 : ¬ Ver.Before x y) : x ∈ m := by
 by_cases e : y = x
 ·rw [← e]; exact List.mem_of_getElem? hy
 ·rcases Ver.before_or e with h | h
  ·exact absurd h h1
  ·exact absurd h h2
theorem within_is (a b : List V) : (!a.any fun x => !decide (x ∈ b)) = decide (Within a b) := by
 rw [Bool.eq_iff_iff, decide_eq_true_iff]
 unfold Within
 simp
end Go.Proofs.YtpafpegcodempaaGreat.Iset
namespace Go.Proofs.YtpafpegcodempaaGreat
open Go.RowKit
structure IsetOk : Prop where
 ofl : ∀ {w : World} {F : Nat → Prop} {v : Value} {l : List Ver.V}, Vrs w F v l → l.length ≤ 1000000 → Calls Tryz.prog 285 #[v] w fun e w' => ∃ v', e = .returned v' ∧ Vrs w' (NewIn w w') v' (Ver.sort l) ∧ Below w.heap.size w w'
 has : ∀ {w : World} {F : Nat → Prop} {v : Value} {l : List Ver.V} (x : Ver.V), Vrs w F v l → l.length ≤ 1000000 → Calls Tryz.prog 195 #[v, verA x] w fun e w' => e = .returned (.bool (decide (x ∈ l))) ∧ Below w.heap.size w w'
 put : ∀ {w : World} {F : Nat → Prop} {v : Value} {l : List Ver.V} (x : Ver.V), Vrs w F v l → l.length ≤ 500000 → Calls Tryz.prog 210 #[v, verA x] w fun e w' => ∃ v', e = .returned v' ∧ Vrs w' (NewIn w w') v' (Iset.put l x) ∧ Below w.heap.size w w'
 join : ∀ {w : World} {F G : Nat → Prop} {u v : Value} {a b : List Ver.V}, Vrs w F u a → Vrs w G v b → a.length ≤ 500000 → b.length ≤ 500000 → Calls Tryz.prog 298 #[u, v] w fun e w' => ∃ v', e = .returned v' ∧ Vrs w' (NewIn w w') v' (Iset.join a b) ∧ Below w.heap.size w w'
 within : ∀ {w : World} {F G : Nat → Prop} {u v : Value} {a b : List Ver.V}, Vrs w F u a → Vrs w G v b → a.length ≤ 1000000 → b.length ≤ 1000000 → Calls Tryz.prog 344 #[u, v] w fun e w' => e = .returned (.bool (decide (Iset.Within a b))) ∧ Below w.heap.size w w'
open Go.RowKit
theorem vec_part {x : List Int} (hx : x.length = 65) {i : Nat} (hi : i < 65) (w : World) : (part 3 (vecR x) (i * 1)).run Tryz.prog w = .ok (.int .i64 ((x[i]?).getD 0)) w := by
 have ha := Tryz.isAgg3
 have hg : (vecR x)[i]? = some (.int .i64 ((x[i]?).getD 0)) := vecR_get (by rw [List.getElem?_eq_getElem (by omega)]; rfl)
 simp [part, ha, hg]
theorem vec_equalIn (m : Nat) (w : World) {x y : List Int} (hx : x.length = 65) (hy : y.length = 65) (hE : ∀ (w : World) (a b : Int), (Op.equalIn m 3 (.int .i64 a) (.int .i64 b)).run Tryz.prog w = .ok (a == b) w) : (Op.equalIn (m + 1) 32 (vecA x) (vecA y)).run Tryz.prog w = .ok (decide (x = y)) w := by
 have hu := Tryz.underlying32
 have hs := Tryz.sizeOf3
 have key : ∀ (n j : Nat), j + n = 65 → (∀ i, i < j → x[i]? = y[i]?) → ∀ w : World, ((forIn (List.range' j n) ((none : Option Bool), ()) (fun i (_ : Option Bool × Unit) => do
   let a ← part 3 (vecR x) (i * 1)
   let b ← part 3 (vecR y) (i * 1)
   let r ← Op.equalIn m 3 a b
   if (!r) = true then pure (ForInStep.done (some false, ())) else pure (ForInStep.yield (none, ())))).run Tryz.prog w) = .ok (if x = y then (none, ()) else (some false, ())) w := by
  intro n
  induction n with
  | zero =>
   intro j hj hp w
   have e : x = y := by
    apply List.ext_getElem?
    intro i
    by_cases hi : i < j
    ·exact hp i hi
    ·rw [List.getElem?_eq_none (by omega), List.getElem?_eq_none (by omega)]
   rw [if_pos e]
   simp
  | succ n ih =>
   intro j hj hp w
   rw [List.range'_succ, List.forIn_cons]
   simp only [Sem.run_bind, vec_part hx (show j < 65 by omega), vec_part hy (show j < 65 by omega), Result.andThen_ok, hE]
   by_cases h : (x[j]?).getD 0 = (y[j]?).getD 0
   ·have h2 : ((x[j]?).getD 0 == (y[j]?).getD 0) = true := by simpa using h
    simp only [h2, Bool.not_true, Bool.false_eq_true, if_false, Sem.run_pure, Result.andThen_ok]
    refine ih (j + 1) (by omega) (fun i hi => ?_) w
    by_cases hij : i = j
    ·subst hij
     rw [List.getElem?_eq_getElem (by omega), List.getElem?_eq_getElem (by omega)] at h ⊢
     simpa using h
    ·exact hp i (by omega)
   ·have h2 : ((x[j]?).getD 0 == (y[j]?).getD 0) = false := by simpa using h
    have hne : ¬ x = y := fun e => h (by rw [e])
    simp only [h2, Bool.not_false, if_true, Sem.run_pure, Result.andThen_ok, if_neg hne]
 simp only [Op.equalIn, Sem.run_bind, run_underlying hu, Result.andThen_ok, hs]
 simp only [Std.Legacy.Range.forIn_eq_forIn_range', Std.Legacy.Range.size, Nat.sub_zero, Nat.add_one_sub_one, Nat.div_one]
 rw [key 65 0 rfl (fun i hi => absurd hi (Nat.not_lt_zero i))]
 by_cases h : x = y
 ·rw [if_pos h, decide_eq_true h]; rfl
 ·rw [if_neg h, decide_eq_false h]; rfl
theorem vec_eq {x y : List Int} (hx : x.length = 65) (hy : y.length = 65) (w : World) : (Op.equalIn 10000 32 (vecA x) (vecA y)).run Tryz.prog w = .ok (decide (x = y)) w := by
 have u3 := Tryz.underlying3
 exact vec_equalIn 9999 w hx hy (fun w a b => run_equalIn_int w 9998 3 _ _ a b u3)
open Go.RowKit Go.Sort
theorem pck_valid_ver (V : VersOk) (x : Ver.V) (hb : Ver.Bd x) (w : World) :
  Calls Tryz.prog 273 #[verA x] w fun e w' => e = .returned (.bool (decide (Ver.Right x))) ∧ Below w.heap.size w w' := by
 have C := Lib.hid (fun W => V.check (w := W) x hb)
 have ht : (Ver.checkV x == 0) = decide (Ver.Right x) := by
  unfold Ver.checkV
  by_cases h : Ver.Right x
  ·rw [if_pos h, decide_eq_true h]; rfl
  ·rw [if_neg h, decide_eq_false h]; rfl
 generalize decide (Ver.Right x) = t at *
 generalize Ver.checkV x = r at *
 clear hb
 obtain ⟨x1, x2⟩ := x
 have HB0 := Lib.hid ((Below.refl w.heap.size w).alloc (Nat.le_refl _) (.cells #[.int .i64 x1, .int .i64 x2] 51))
 have HT := Lib.hid ht
 clear ht
 go_enter Tryz.func273, Tryz.ntmps273
 go_wp2_with fail
 refine (C.out _).mono ?_
 rintro e w1 ⟨rfl, hb1⟩
 have HB1 := Lib.hid (HB0.out.trans (hb1.below.mono HB0.out.size))
 clear hb1
 go_wp2_with fail
 go_ret
 exact ⟨by rw [← HT.out]; rfl, HB1.out⟩
theorem pck_all1_ver (V : VersOk) (x : Ver.V) (hb : Ver.Bd x) {w : World} {q : Nat} (hq : w.cell? ⟨q, 0, none⟩ = some (.func (.func 273) #[] #[])) (hqw : q < w.heap.size) :
  Calls Tryz.prog 368 #[verA x, .pointer (some ⟨q, 0, none⟩)] w fun e w' => e = .returned (.bool (!decide (Ver.Right x))) ∧ Below w.heap.size w w' := by
 have C := Lib.hid (fun W => pck_valid_ver V x hb W)
 obtain ⟨t, ht⟩ : ∃ t : Bool, t = decide (Ver.Right x) := ⟨_, rfl⟩
 rw [← ht] at C ⊢
 clear ht hb
 obtain ⟨x1, x2⟩ := x
 dsimp only [verA] at C ⊢
 have HB0 := Lib.hid ((Below.refl w.heap.size w).alloc (Nat.le_refl _) (.cells #[.int .i64 x1, .int .i64 x2] 51))
 have hq1 : (w.alloc (.cells #[.int .i64 x1, .int .i64 x2] 51)).cell? ⟨q, 0, none⟩ = _ := (HB0.out.cell (p := ⟨q, 0, none⟩) hqw).trans hq
 clear hqw hq
 go_enter Tryz.func368, Tryz.ntmps368
 go_wp2_with fail
 refine (C.out _).mono ?_
 rintro e w1 ⟨rfl, hb1⟩
 have HB1 := Lib.hid (HB0.out.trans (hb1.mono HB0.out.size))
 clear hb1
 go_wp2_with fail
 go_ret
 exact ⟨rfl, HB1.out⟩
theorem pck_idx_ver (V : VersOk) {w : World} {F : Nat → Prop} {v : Value} {l : List (Ver.V)} {q : Nat} (h : Vrs w F v l) (hl : l.length ≤ 1000000) (hb : ∀ x ∈ l, Ver.Bd x) (hq : w.cell? ⟨q, 0, none⟩ = some (.func (.func 273) #[] #[])) (hqw : q < w.heap.size) :
  Calls Tryz.prog 398 #[v, .func (.func 368) #[] #[.pointer (some ⟨q, 0, none⟩)]] w fun e w' => (∃ k : Int, e = .returned (.int .i64 k) ∧ decide (0 ≤ k) = !decide (∀ x ∈ l, Ver.Right x)) ∧ Below w.heap.size w w' := by
 obtain ⟨A, cap, rfl, hcap⟩ := h.parts
 have H := Lib.hid h
 have hl' : (l.length : Int) ≤ 1000000 := by omega
 have P1 := Lib.hid (fun (x : Ver.V) (hx : x ∈ l) (W : World) (hW : Below w.heap.size w W) => pck_all1_ver V x (hb x hx) (w := W) (q := q) ((hW.cell (p := ⟨q, 0, none⟩) hqw).trans hq) (Nat.lt_of_lt_of_le hqw hW.size))
 clear h hb hq hqw
 go_enter Tryz.func398, Tryz.ntmps398
 go_wp2_with fail
 go_loopw [8] (fun i wr => ∃ n : Nat, n ≤ l.length ∧ i = .int .i64 (n : Int) ∧ Hid (∀ x ∈ l.take n, Ver.Right x) ∧ Below w.heap.size w wr) (fun i _ => l.length - (intOf i).toNat)
 case atStart => exact ⟨0, Nat.zero_le _, rfl, Lib.hid (by simp), Below.refl _ _⟩
 case round =>
  obtain ⟨n, hn, rfl, hall, hbel⟩ := hrel
  by_cases hlt : n < l.length
  ·obtain ⟨b, o, cap1, e, -, -, hb⟩ := H.out.block (by omega)
   injection e with e1 e2 e3
   subst e1 e3
   clear e2
   obtain ⟨x, hx⟩ : ∃ x, l[n]? = some x := ⟨_, List.getElem?_eq_getElem hlt⟩
   obtain ⟨d0, d1⟩ := Vrs.at (Rws.below H.out hbel) hx
   have hn0 : (0 : Int) ≤ (n : Int) := by omega
   have hn1 : (n : Int) < (l.length : Int) := by omega
   have PX := P1.out x (List.mem_of_getElem? hx) wr hbel
   have HBL := Lib.hid hbel
   have Hlt := Lib.hid hlt
   clear hb hlt hn hbel
   by_cases hr : Ver.Right x
   ·rw [decide_eq_true hr] at PX
    have hnext : Hid (∀ y ∈ l.take (n + 1), Ver.Right y) := Lib.hid (by
     obtain ⟨h1, e1⟩ := List.getElem?_eq_some_iff.1 hx
     intro y hy
     rw [List.take_succ_eq_append_getElem h1, e1] at hy
     rcases List.mem_append.1 hy with hy | hy
     ·exact hall.out y hy
     ·rw [List.mem_singleton.1 hy]; exact hr)
    replace PX := Lib.hid PX
    clear hx hr hall
    obtain ⟨x1, x2⟩ := x
    dsimp only [verA] at PX d0 d1
    go_wp2_with fail
    refine (PX.out).mono ?_
    rintro e w1 ⟨rfl, hb1⟩
    have HB1 := Lib.hid (HBL.out.trans (hb1.mono HBL.out.size))
    clear hb1
    go_wp2_with fail
    go_roundw
    case rel => exact ⟨n + 1, by have := Hlt.out; omega, by go_num, hnext, HB1.out⟩
    case measure => (have := Hlt.out; simp [intOf]; omega)
   ·rw [decide_eq_false hr] at PX
    have hno : Hid (¬ ∀ y ∈ l, Ver.Right y) := Lib.hid (fun h => hr (h x (List.mem_of_getElem? hx)))
    replace PX := Lib.hid PX
    clear hx hr hall
    obtain ⟨x1, x2⟩ := x
    dsimp only [verA] at PX d0 d1
    go_wp2_with fail
    refine (PX.out).mono ?_
    rintro e w1 ⟨rfl, hb1⟩
    have HB1 := Lib.hid (HBL.out.trans (hb1.mono HBL.out.size))
    clear hb1
    go_wp2_with fail
    go_ret
    exact ⟨⟨_, rfl, by rw [decide_eq_false hno.out]; simp⟩, HB1.out⟩
  ·obtain rfl : n = l.length := by omega
   have hyes : Hid (∀ y ∈ l, Ver.Right y) := Lib.hid (by have := hall.out; rwa [List.take_length] at this)
   have HBL := Lib.hid hbel
   clear hall hbel
   go_wp2_with fail
   go_ret
   exact ⟨⟨_, rfl, by rw [decide_eq_true hyes.out]; rfl⟩, HBL.out⟩
theorem pck_all_ver (V : VersOk) {w : World} {F : Nat → Prop} {v : Value} {l : List (Ver.V)} (h : Vrs w F v l) (hl : l.length ≤ 1000000) (hb : ∀ x ∈ l, Ver.Bd x) :
  Calls Tryz.prog 319 #[v, .func (.func 273) #[] #[]] w fun e w' => e = .returned (.bool (decide (∀ x ∈ l, Ver.Right x))) ∧ Below w.heap.size w w' := by
 have HB0 := Lib.hid ((Below.refl w.heap.size w).alloc (Nat.le_refl _) (.cells #[.func (.func 273) #[] #[]] 125))
 have RB := Row.made w 125 #[.func (.func 273) #[] #[]]
 have IX : Hid (Calls Tryz.prog 367 #[v, .func (.func 368) #[] #[.pointer (some ⟨w.heap.size, 0, none⟩)]] (w.alloc (.cells #[.func (.func 273) #[] #[]] 125)) fun e w' => e = .returned (.bool (!decide (∀ x ∈ l, Ver.Right x))) ∧ Below (w.alloc (.cells #[.func (.func 273) #[] #[]] 125)).heap.size (w.alloc (.cells #[.func (.func 273) #[] #[]] 125)) w') := Lib.hid (by
  have IX0 := pck_idx_ver V (Rws.below h ((Below.refl _ _).alloc (Nat.le_refl _) (.cells #[.func (.func 273) #[] #[]] 125))) hl hb (RB.at 0) RB.inHeap
  generalize (!decide (∀ x ∈ l, Ver.Right x)) = t at *
  replace IX0 := Lib.hid IX0
  obtain ⟨A, cap, rfl, hcap⟩ := h.parts
  clear h hb RB HB0
  generalize w.alloc (.cells #[.func (.func 273) #[] #[]] 125) = W at *
  generalize w.heap.size = q at *
  go_enter Tryz.func367, Tryz.ntmps367
  go_wp2_with fail
  refine (IX0.out).mono ?_
  rintro e w1 ⟨⟨k, rfl, hk⟩, hb1⟩
  have HK := Lib.hid hk
  have HB1 := Lib.hid hb1
  clear hb1
  go_wp2_with fail
  go_ret
  exact ⟨by rw [← HK.out]; rfl, HB1.out⟩)
 generalize decide (∀ x ∈ l, Ver.Right x) = t at *
 clear h hb RB
 go_enter Tryz.func319, Tryz.ntmps319
 go_wp2_with fail
 refine IX.out.mono ?_
 rintro e w1 ⟨rfl, hb1⟩
 have HB1 := Lib.hid (HB0.out.trans (hb1.mono HB0.out.size))
 clear hb1
 go_wp2_with fail
 go_ret
 exact ⟨by first | rfl | rw [Bool.not_not], HB1.out⟩
theorem pck_same_ver {w : World} {F G : Nat → Prop} {u v : Value} {a b : List Ver.V} (ha : Vrs w F u a) (hb : Vrs w G v b) (la : a.length ≤ 1000000) (lb : b.length ≤ 1000000) :
  Calls Tryz.prog 80 #[u, v] w fun e w' => e = .returned (.bool (decide (a = b))) ∧ Below w.heap.size w w' := by
 obtain ⟨A, ca, rfl, hca⟩ := ha.parts
 obtain ⟨B, cb, rfl, hcb⟩ := hb.parts
 have HA := Lib.hid ha
 have HB := Lib.hid hb
 have la' : (a.length : Int) ≤ 1000000 := by omega
 have lb' : (b.length : Int) ≤ 1000000 := by omega
 clear ha hb
 by_cases hlen : a.length = b.length
 ·rw [← hlen]
  rw [← hlen] at HB
  have Hlen := Lib.hid hlen
  clear hlen
  go_enter Tryz.func80, Tryz.ntmps80
  go_wp2_with fail
  go_loopw [13] (fun i wr => ∃ n : Nat, n ≤ a.length ∧ i = .int .i64 (n : Int) ∧ Hid (a.take n = b.take n) ∧ Below w.heap.size w wr) (fun i _ => a.length - (intOf i).toNat)
  case atStart => exact ⟨0, Nat.zero_le _, rfl, Lib.hid (by rw [List.take_zero, List.take_zero]), Below.refl _ _⟩
  case round =>
   obtain ⟨n, hn, rfl, hsame, hbel⟩ := hrel
   by_cases hlt : n < a.length
   ·obtain ⟨b1, o1, cap1, e, -, -, hb1⟩ := HA.out.block (by omega)
    injection e with e1 e2 e3
    subst e1 e3
    obtain ⟨b2, o2, cap2, e, -, -, hb2⟩ := HB.out.block (by have := Hlen.out; omega)
    injection e with e1 e2 e3
    subst e1 e3
    clear e2
    obtain ⟨x, hx⟩ : ∃ x, a[n]? = some x := ⟨_, List.getElem?_eq_getElem hlt⟩
    obtain ⟨y, hy⟩ : ∃ y, b[n]? = some y := ⟨_, List.getElem?_eq_getElem (show n < b.length by have := Hlen.out; omega)⟩
    obtain ⟨c0, c1⟩ := Vrs.at (HA.out.below hbel) hx
    obtain ⟨d0, d1⟩ := Vrs.at (HB.out.below hbel) hy
    have hn0 : (0 : Int) ≤ (n : Int) := by omega
    have hn1 : (n : Int) < (a.length : Int) := by omega
    have Hbel := Lib.hid hbel
    clear hbel
    by_cases hxy : x = y
    ·subst hxy
     have hnext : Hid (a.take (n + 1) = b.take (n + 1)) := Lib.hid (by
      obtain ⟨h1, e1⟩ := List.getElem?_eq_some_iff.1 hx
      obtain ⟨h2, e2⟩ := List.getElem?_eq_some_iff.1 hy
      rw [List.take_succ_eq_append_getElem h1, List.take_succ_eq_append_getElem h2, e1, e2, hsame.out])
     obtain ⟨x1, x2⟩ := x
     simp only at c0 c1 d0 d1
     clear hx hy hsame
     go_wp2_with fail
     go_quiet (fail)
     go_wp2_with fail
     refine ⟨⟨n + 1, by omega, rfl, hnext, Hbel.out.trans ((ver_drews wr nq).mono Hbel.out.size)⟩, ?_⟩
     show a.length - ((n : Int) + 1).toNat < a.length - (n : Int).toNat
     omega
    ·have hne : Hid (¬ a = b) := Lib.hid (fun e => hxy (by rw [e, hy] at hx; injection hx with hx; exact hx.symm))
     obtain ⟨x1, x2⟩ := x
     obtain ⟨y1, y2⟩ := y
     simp only at c0 c1 d0 d1
     have hxy' : x1 = y1 → ¬ x2 = y2 := fun h k => hxy (by rw [h, k])
     clear hx hy hsame hxy
     by_cases h1 : x1 = y1
     ·have h2 := hxy' h1
      subst h1
      clear hxy'
      go_wp2_with fail
      go_quiet (fail)
      go_wp2_with fail
      go_ret
      exact ⟨by rw [decide_eq_false hne.out]; rfl, Hbel.out.trans ((ver_drews wr nq).mono Hbel.out.size)⟩
     ·clear hxy'
      go_wp2_with fail
      go_quiet (fail)
      go_wp2_with fail
      go_ret
      exact ⟨by rw [decide_eq_false hne.out]; rfl, Hbel.out.trans ((ver_drews wr nq).mono Hbel.out.size)⟩
   ·obtain rfl : n = a.length := by omega
    have hab : Hid (a = b) := Lib.hid (by
     have := hsame.out
     rw [List.take_length, Hlen.out, List.take_length] at this
     exact this)
    have Hbel := Lib.hid hbel
    clear hbel hsame
    go_wp2_with fail
    go_ret
    exact ⟨by rw [decide_eq_true hab.out]; rfl, Hbel.out⟩
 ·have hlen' : ¬ ((a.length : Nat) : Int) = ((b.length : Nat) : Int) := by omega
  have hne : Hid (¬ a = b) := Lib.hid (fun e => hlen (by rw [e]))
  clear hlen
  go_enter Tryz.func80, Tryz.ntmps80
  go_wp2_with fail
  go_ret
  exact ⟨by rw [decide_eq_false hne.out]; rfl, Below.refl _ _⟩
open Go.RowKit Go.Sort
theorem pck_validVec (V : VecOk) {v : List Int} (hv : v.length = 65) (w : World) :
  Calls Tryz.prog 164 #[vecA v] w fun e w' => e = .returned (.bool (decide (Pck.OkVec v))) ∧ Below w.heap.size w w' := by
 have CL := Lib.hid (fun W => V.clean (w := W) hv)
 have hE := fun W => vec_eq (x := Vec.clean v) (y := v) (Vec.clean_len v) hv W
 have e : decide (Vec.clean v = v) = decide (Pck.OkVec v) := by rw [decide_eq_decide]; exact Iff.rfl
 rw [e] at hE
 have R0 := Lib.hid (VRow.made w hv)
 have HL := Lib.hid (Laid.new w (.cells (vecR v) 32))
 clear hv e
 generalize decide (Pck.OkVec v) = r at *
 go_enter Tryz.func164, Tryz.ntmps164
 go_wp2_with fail
 refine wp_region_held_drew (S := (fun w' : World => Laid (w.alloc (.cells (vecR v) 32)) w')) (by kernel_rfl) ((Laid.refl _).drew) (fun hHeld => ?_)
 refine wpAnyH_tk (i := 0) (v := vecA v) rfl (Or.inl ⟨by rfl, (by intro w hSw; exact exec_vload (by rfl) (by rfl) (R0.out.below (Laid.below hSw) R0.out.inHeap))⟩) (by assumption) ?_
 simp only [zz]
 refine wpAnyH_tk (i := 2) (v := vecA v) rfl (Or.inl ⟨by rfl, (by intro w hSw; exact exec_vload (by rfl) (by rfl) (R0.out.below (Laid.below hSw) R0.out.inHeap))⟩) (by assumption) ?_
 simp only [zz]
 refine wpAnyH_ready (rs := [1]) (by kernel_rfl) (by simp) ?_
 refine AllReadyH.cons rfl (fun K hK => ?_) AllReadyH.nil
 go_simp
 go_at_call 266
 refine (CL.out _).mono ?_
 rintro e w8 ⟨rfl, h8⟩
 have F2 := Lib.hid (Laid.trans hHeld h8)
 refine hK.out _ _ F2.out (fun hHeld => ?_)
 clear h8
 clear hK K
 refine wpAnyH_td (i := 3) rfl ?_
 simp only [zz]
 refine wpAnyH_td (i := 4) rfl ?_
 simp only [zz]
 refine wpAnyH_done (by kernel_rfl) ?_ _
 go_wp2_with fail
 go_ret
 exact ⟨rfl, (HL.out.trans F2.out).below⟩
theorem pck_validItems (V : VersOk) (S : IsetOk) {w : World} {F : Nat → Prop} {v : Value} {l : List Ver.V} (h : Vrs w F v l) (hl : l.length ≤ 1000000) (hb : ∀ x ∈ l, Ver.Bd x) :
  Calls Tryz.prog 234 #[v] w fun e w' => e = .returned (.bool (decide (Pck.OkItems l))) ∧ Below w.heap.size w w' := by
 have AL := Lib.hid (pck_all_ver V h hl hb)
 have OF := Lib.hid (fun (W : World) (hW : Below w.heap.size w W) => S.ofl (Rws.below h hW) hl)
 have EQ := Lib.hid (fun (W : World) (hW : Below w.heap.size w W) (G : Nat → Prop) (u : Value) (hu : Vrs W G u (Ver.sort l)) => pck_same_ver hu (Rws.below h hW) (Nat.le_trans (Ver.sort_len l) hl) hl)
 by_cases hr : ∀ x ∈ l, Ver.Right x
 ·have hE : decide (Ver.sort l = l) = decide (Pck.OkItems l) := by rw [decide_eq_decide]; exact ⟨fun h => ⟨hr, h⟩, fun h => h.2⟩
  rw [hE] at EQ
  rw [decide_eq_true hr] at AL
  generalize decide (Pck.OkItems l) = t at *
  clear h hl hb hr hE
  go_enter Tryz.func234, Tryz.ntmps234
  go_wp2_with fail
  refine AL.out.mono ?_
  rintro e w1 ⟨rfl, h1⟩
  have B1 := Lib.hid h1
  clear h1
  go_wp2_with fail
  refine (OF.out _ B1.out).mono ?_
  rintro e w2 ⟨u, rfl, h2, b2⟩
  have B2 := Lib.hid (B1.out.trans (b2.mono B1.out.size))
  have U2 := Lib.hid h2
  clear h2 b2
  go_wp2_with fail
  refine (EQ.out _ B2.out _ _ U2.out).mono ?_
  rintro e w3 ⟨rfl, b3⟩
  have B3 := Lib.hid (B2.out.trans (b3.mono B2.out.size))
  clear b3
  go_wp2_with fail
  go_ret
  exact ⟨rfl, B3.out⟩
 ·have hE : decide (Pck.OkItems l) = false := decide_eq_false (fun h => hr h.1)
  rw [hE]
  rw [decide_eq_false hr] at AL
  clear h hl hb hr hE OF EQ
  go_enter Tryz.func234, Tryz.ntmps234
  go_wp2_with fail
  refine AL.out.mono ?_
  rintro e w1 ⟨rfl, h1⟩
  have B1 := Lib.hid h1
  clear h1
  go_wp2_with fail
  go_ret
  exact ⟨rfl, B1.out⟩
open Go.RowKit Go.Sort
theorem Pck.putOf_true {ok : Prop} [Decidable ok] {bs : List UInt8} (h : ok) : Pck.putOf ok bs = (Pck.bsTo true bs, if Pck.okTo true bs then 0 else 4) := by
 unfold Pck.putOf Pck.bsTo Pck.okTo
 rw [if_pos h]
 by_cases hl : bs.length ≤ 65536
 ·rw [if_pos hl, decide_eq_true hl]; rfl
 ·rw [if_neg hl, decide_eq_false hl]; rfl
theorem gb_out {w w0 w1 : World} {c : Nat} (h : Below w.heap.size w w0) (g : w0.grownBy w1 (some c)) (hc : w.heap.size ≤ c) : Below w.heap.size w w1 :=
 h.trans ⟨g.os, g.tape, g.output, g.size, fun i hi => g.block i (Nat.lt_of_lt_of_le hi h.size) (fun e => by injection e with e; omega)⟩
theorem below_drawsN {w w1 : World} {b : Nat} (h : Below b w w1) (n : Nat) : Below b w (w1.drewN n) := ⟨h.os, h.tape, h.output, h.size, h.block⟩
open Go.RowKit Go.Sort
theorem pck_put_vec (V : VecOk) {v : List Int} (hv : v.length = 65) (hb : ∀ n ∈ v, n ≤ 9223372036854775807) (w : World) :
  Calls Tryz.prog 163 #[vecA v, .bool (decide (Pck.OkVec v)), .func (.func 165) #[] #[]] w fun e w' => e = .returned (.tuple #[.string (mk (Pck.putOf (Pck.OkVec v) (Pck.vec v)).1), .int .i64 (Pck.putOf (Pck.OkVec v) (Pck.vec v)).2]) ∧ Below w.heap.size w w' := by
 by_cases hok : Pck.OkVec v
 ·rw [decide_eq_true hok, Pck.putOf_true hok]
  dsimp only
  have E0 : Hid (ErrAt ((w.alloc (.cells (vecR v) 32)).alloc (.cells #[.int .i64 0] 39)) (w.heap.size + 1) true) := Lib.hid (by
   have := Row.made (w.alloc (.cells (vecR v) 32)) 39 #[.int .i64 0]
   rw [World.size_alloc] at this
   exact this)
  have LW0 := pck_layVec V lays_vec hv hb E0.out
  have R0 : Hid (VRow ((w.alloc (.cells (vecR v) 32)).alloc (.cells #[.int .i64 0] 39)) w.heap.size v) := Lib.hid ((VRow.made w hv).alloc _)
  have G0 : Hid (Below w.heap.size w ((w.alloc (.cells (vecR v) 32)).alloc (.cells #[.int .i64 0] 39))) := Lib.hid (((Below.refl _ _).alloc (Nat.le_refl _) _).alloc (by simp) _)
  have LL := Lib.hid LW0
  unfold PutTo at LL
  generalize Pck.vec v = enc at *
  clear LW0 E0 hok hv hb
  have HT : Hid (Pck.bsTo true enc = Pck.bsTo true enc) := Lib.hid rfl
  generalize Pck.okTo true enc = oo at *
  generalize hbs : mk (Pck.bsTo true enc) = B at *
  clear hbs HT
  obtain ⟨r, hr⟩ : ∃ r : Int, (if oo then (0 : Int) else 4) = r := ⟨_, rfl⟩
  rw [hr]
  have HR := Lib.hid hr
  clear hr
  go_enter Tryz.func163, Tryz.ntmps163
  go_wp2_with (refine wpList_vload (by rfl) (.tmp 3) (by rfl) (by rfl) R0.out ?_)
  refine LL.out.mono ?_
  rintro e w1 ⟨rfl, h1, h2⟩
  have c1 : w1.cell? ⟨w.heap.size + 1, 0, none⟩ = some (.int .i64 r) := by rw [← HR.out]; exact Row.at h1 0
  have B1 := Lib.hid (gb_out G0.out h2 (by omega))
  clear h1 h2 HR
  go_wp2_with fail
  go_quiet (fail)
  go_wp2_with fail
  go_ret2
  exact ⟨rfl, below_drawsN B1.out _⟩
 ·rw [decide_eq_false hok, Pck.put_bad hok]
  dsimp only
  have G0 : Hid (Below w.heap.size w (w.alloc (.cells (vecR v) 32))) := Lib.hid ((Below.refl _ _).alloc (Nat.le_refl _) _)
  clear hok hv hb
  go_enter Tryz.func163, Tryz.ntmps163
  go_wp2_with fail
  go_ret2
  exact ⟨rfl, G0.out⟩
open Go.RowKit Go.Sort
theorem pck_over (s : List UInt8) (w : World) : Calls Tryz.prog 60 #[.string (mk s)] w fun e w' => ∃ p, e = .returned (.pointer (some ⟨p, 0, none⟩)) ∧ RdL w' p s 0 ∧ w.heap.size ≤ p ∧ Below w.heap.size w w' := by
 refine (over_any (mk s) w).mono ?_
 rintro e w' ⟨rfl, h1, h2⟩
 rw [mk_data] at h1
 exact ⟨_, rfl, h1, Nat.le_refl _, h2⟩
theorem below_kept {F : Nat → Prop} {w a b : World} (h : Below w.heap.size w a) (k : Kept F a b) (hF : ∀ i, F i → w.heap.size ≤ i) : Below w.heap.size w b :=
 h.trans (k.below h.size hF)
theorem pck_rlist_ver (w : World) : Calls Tryz.prog 268 #[.func (.func 269) #[] #[]] w fun e w' =>
  ∃ c2, e = .returned (.func (.func 341) #[] #[.pointer (some ⟨c2, 0, none⟩)]) ∧ Row w' c2 306 #[.func (.func 269) #[] #[]] ∧ Below w.heap.size w w' := by
 have R := Lib.hid (Row.made w 306 #[.func (.func 269) #[] #[]])
 have hb := Lib.hid ((Below.refl w.heap.size w).alloc (Nat.le_refl _) (.cells #[.func (.func 269) #[] #[]] 306))
 go_enter Tryz.func268, Tryz.ntmps268
 go_wp2_with fail
 go_ret
 exact ⟨_, rfl, R.out, hb.out⟩
theorem pck_rlist_cl (w : World) : Calls Tryz.prog 278 #[.func (.func 279) #[] #[]] w fun e w' =>
  ∃ c2, e = .returned (.func (.func 342) #[] #[.pointer (some ⟨c2, 0, none⟩)]) ∧ Row w' c2 308 #[.func (.func 279) #[] #[]] ∧ Below w.heap.size w w' := by
 have R := Lib.hid (Row.made w 308 #[.func (.func 279) #[] #[]])
 have hb := Lib.hid ((Below.refl w.heap.size w).alloc (Nat.le_refl _) (.cells #[.func (.func 279) #[] #[]] 308))
 go_enter Tryz.func278, Tryz.ntmps278
 go_wp2_with fail
 go_ret
 exact ⟨_, rfl, R.out, hb.out⟩
end Go.Proofs.YtpafpegcodempaaGreat
