import Derived.Test.YtpafpegcodempaaGreatCom22
import Derived.Test.YtpafpegcodempaaGreatCom17
import Derived.Test.YtpafpegcodempaaGreatCom27
import Derived.Test.YtpafpegcodempaaGreatCom11
import Derived.Test.YtpafpegcodempaaGreatCom6
import Derived.Shelf.SlSortCmp.NoneTotal
import Derived.Great.Walk
import Derived.WalkMore
import Derived.Shelf.Spec.SlicesGrow
import Derived.Shelf.SlicesQ.IndexFunc
set_option maxRecDepth 100000
set_option linter.all false
set_option maxHeartbeats 12800000
namespace Go.Proofs.YtpafpegcodempaaGreat
open Go.RowKit Go.Sort
theorem ver_stamp (w : World) (s : Ver.S) (hb : Ver.BdS s) : Calls Tryz.prog 339 #[stpA s] w fun e w' => e = .returned (.int .i64 (Ver.checkS s)) ∧ Laid w w' := by
 have L := Lib.hid (laid_one w)
 obtain ⟨t, x, y⟩ := s
 have CH := Lib.hid (fun W => ver_check W ⟨x, y⟩ hb.1)
 have CO := Lib.hid (fun W => ver_counts W t (by have := hb.2; unfold Ver.I64 at this; exact this.2))
 clear hb
 by_cases h3 : (1 : Int) ≤ t
 ·have E : Hid (Ver.checkS ⟨t, x, y⟩ = Ver.checkV ⟨x, y⟩) := Lib.hid (by unfold Ver.checkS Ver.checkV Ver.RightS; simp [h3])
  have CO : Hid (∀ W, Calls Tryz.prog 287 #[.int .i64 t] W fun e w' => e = .returned (.bool true) ∧ W = w') := Lib.hid (fun W => by have := CO.out W; rwa [decide_eq_true h3] at this)
  generalize Ver.checkV ⟨x, y⟩ = r at *
  go_enter Tryz.func339, Tryz.ntmps339
  go_wp2_with (first | (go_at_call 287; refine (CO.out _).mono ?_; rintro e w' ⟨rfl, rfl⟩) | (go_at_call 191; refine (CH.out _).mono ?_; rintro e w1 ⟨rfl, hl⟩; have HL := Lib.hid ((L.out _).trans hl); clear hl))
  go_ret
  exact ⟨by rw [E.out]; rfl, HL.out⟩
 ·have E : Hid (Ver.checkS ⟨t, x, y⟩ = 2) := Lib.hid (by unfold Ver.checkS Ver.RightS; simp [h3])
  have CO : Hid (∀ W, Calls Tryz.prog 287 #[.int .i64 t] W fun e w' => e = .returned (.bool false) ∧ W = w') := Lib.hid (fun W => by have := CO.out W; rwa [decide_eq_false h3] at this)
  go_enter Tryz.func339, Tryz.ntmps339
  go_wp2_with (go_at_call 287; refine (CO.out _).mono ?_; rintro e w' ⟨rfl, rfl⟩)
  go_ret
  exact ⟨by rw [E.out]; rfl, L.out _⟩
theorem ver_before (w : World) (a b : Ver.V) : Calls Tryz.prog 226 #[verA a, verA b] w fun e w' => e = .returned (.bool (decide (Ver.Before a b))) ∧ Laid w w' := by
 have L := Lib.hid (laid_two w)
 obtain ⟨x, y⟩ := a
 obtain ⟨x', y'⟩ := b
 have E := Lib.hid (show decide (Ver.Before ⟨x, y⟩ ⟨x', y'⟩) = _ from before_alt x y x' y')
 by_cases h1 : x < x'
 ·go_enter Tryz.func226, Tryz.ntmps226
  go_wp2_with fail
  go_ret
  exact ⟨by rw [E.out]; first | (simp [h1]; done) | (simp [h1]; omega), L.out _ _⟩
 ·by_cases h2 : x = x'
  ·subst h2
   go_enter Tryz.func226, Tryz.ntmps226
   go_wp2_with fail
   go_ret
   exact ⟨by rw [E.out]; first | (simp [h1]; done) | (simp [h1]; omega), L.out _ _⟩
  ·go_enter Tryz.func226, Tryz.ntmps226
   go_wp2_with fail
   go_ret
   exact ⟨by rw [E.out]; first | (simp [h1, h2]; done) | (simp [h1, h2]; omega), L.out _ _⟩
def Ver.order (a b : Ver.V) : Int := if a = b then 0 else if Ver.Before a b then -1 else 1
theorem ver_order (w : World) (a b : Ver.V) : Calls Tryz.prog 383 #[verA a, verA b] w fun e w' => e = .returned (.int .i64 (Ver.order a b)) ∧ Laid w w' := by
 have L := Lib.hid (laid_two w)
 have BE := Lib.hid (fun W => ver_before W a b)
 by_cases h0 : a = b
 ·subst h0
  have E : Hid (Ver.order a a = 0) := Lib.hid (by unfold Ver.order; rw [if_pos rfl])
  obtain ⟨x, y⟩ := a
  go_enter Tryz.func383, Tryz.ntmps383
  go_wp2_with fail
  go_ret
  exact ⟨by rw [E.out]; rfl, L.out _ _⟩
 ·have hne : a.by_ = b.by_ → ¬ a.n = b.n := fun h k => h0 (Ver.v_ext h k)
  have main : ∀ r : Bool, r = decide (Ver.Before a b) → Ver.order a b = (if r then -1 else 1) → Calls Tryz.prog 383 #[verA a, verA b] w fun e w' => e = .returned (.int .i64 (Ver.order a b)) ∧ Laid w w' := by
   intro r hr hE
   have BE : Hid (∀ W, Calls Tryz.prog 226 #[verA a, verA b] W fun e w' => e = .returned (.bool r) ∧ Laid W w') := Lib.hid (fun W => by have := BE.out W; rwa [← hr] at this)
   have E := Lib.hid hE
   obtain ⟨x, y⟩ := a
   obtain ⟨x', y'⟩ := b
   simp only at hne
   clear hE hr h0
   by_cases h1 : x = x'
   ·have h2 := hne h1
    subst h1
    clear hne
    cases r
    all_goals
     go_enter Tryz.func383, Tryz.ntmps383
     go_wp2_with (go_at_call 226; refine (BE.out _).mono ?_; rintro e w1 ⟨rfl, hl⟩; have HL := Lib.hid ((L.out _ _).trans hl); clear hl)
     go_ret
     exact ⟨by rw [E.out]; rfl, HL.out⟩
   ·clear hne
    cases r
    all_goals
     go_enter Tryz.func383, Tryz.ntmps383
     go_wp2_with (go_at_call 226; refine (BE.out _).mono ?_; rintro e w1 ⟨rfl, hl⟩; have HL := Lib.hid ((L.out _ _).trans hl); clear hl)
     go_ret
     exact ⟨by rw [E.out]; rfl, HL.out⟩
  by_cases hb : Ver.Before a b
  ·exact main true (decide_eq_true hb).symm (by unfold Ver.order; rw [if_neg h0, if_pos hb, if_pos rfl])
  ·exact main false (decide_eq_false hb).symm (by unfold Ver.order; rw [if_neg h0, if_neg hb, if_neg (by decide)])
open Go.RowKit Go.Shelf Go.Lib Go.Sort
theorem lt_order (x y : Ver.V) : ltOf Ver.order x y = decide (Ver.Before x y) := by
 unfold ltOf Ver.order
 by_cases h : x = y
 ·subst h; simp [Ver.before_irrefl]
 ·by_cases h2 : Ver.Before x y <;> simp [h, h2]
theorem swo_order : SWO (ltOf Ver.order) where
 irrefl x := by rw [lt_order]; exact decide_eq_false (Ver.before_irrefl x)
 trans x y z h1 h2 := by
  rw [lt_order] at *
  exact decide_eq_true (Ver.before_trans (of_decide_eq_true h1) (of_decide_eq_true h2))
 ntrans x y z h1 h2 := by
  rw [lt_order] at *
  have k1 := of_decide_eq_false h1
  have k2 := of_decide_eq_false h2
  exact decide_eq_false (by unfold Ver.Before at *; omega)
theorem compact_sort {S : List Ver.V} (h : ∀ (i j : Nat) (x y : Ver.V), i < j → S[i]? = some x → S[j]? = some y → ¬ Ver.Before y x) : Ver.Up (Lib.compact S) ∧ ∀ x, x ∈ Lib.compact S ↔ x ∈ S := by
 have at_ : ∀ i, i < S.length → S[i]? = some S.toArray[i]! := fun i hi => by
  have := getI_to S.toArray (i := i) (by simpa using hi)
  simpa using this
 constructor
 ·unfold Ver.Up Lib.compact Lib.compactUpTo
  rw [List.pairwise_map]
  have hr : List.Pairwise (fun a b => a < b ∧ b < S.length) (List.range S.length) := by
   have h1 : List.Pairwise (fun a b : Nat => a < b) (List.range S.length) := List.pairwise_lt_range
   refine List.Pairwise.imp_of_mem (fun {a b} ha hb hab => ⟨hab, List.mem_range.1 hb⟩) h1
  have hf := hr.filter (Lib.keeps S.toArray)
  refine List.Pairwise.imp_of_mem (fun {a b} ha hb hab => ?_) hf
  obtain ⟨hab, hbl⟩ := hab
  have hk := (List.mem_filter.1 hb).2
  have hne : S.toArray[b]! ≠ S.toArray[b - 1]! := by
   have := of_decide_eq_true hk
   rcases this with h0 | h0
   ·omega
   ·exact h0
  have q1 := h (b - 1) b _ _ (by omega) (at_ _ (by omega)) (at_ _ hbl)
  have q2 := h a b _ _ hab (at_ _ (by omega)) (at_ _ hbl)
  by_cases e : S.toArray[a]! = S.toArray[b]!
  ·exfalso
   have q3 : ¬ Ver.Before S.toArray[b - 1]! S.toArray[b]! := by
    rcases Nat.lt_or_ge a (b - 1) with hlt | hge
    ·have := h a (b - 1) _ _ hlt (at_ _ (by omega)) (at_ _ (by omega))
     rwa [e] at this
    ·have : a = b - 1 := by omega
     subst this
     rw [e]; exact Ver.before_irrefl _
   rcases Ver.before_or hne with k | k
   ·exact q1 k
   ·exact q3 k
  ·exact (Ver.before_or e).resolve_right q2
 ·intro x
  unfold Lib.compact Lib.compactUpTo
  rw [List.mem_map]
  constructor
  ·rintro ⟨i, hi, rfl⟩
   have hi := List.mem_range.1 (List.mem_filter.1 hi).1
   exact List.mem_of_getElem? (at_ i hi)
  ·intro hx
   obtain ⟨i, hi⟩ := List.getElem?_of_mem hx
   have hil : i < S.length := (List.getElem?_eq_some_iff.1 hi).1
   have hxi : S.toArray[i]! = x := getI_of hi
   clear hi
   induction i with
   | zero => exact ⟨0, List.mem_filter.2 ⟨List.mem_range.2 hil, Lib.keeps_lt_one _ 0 (by omega)⟩, hxi⟩
   | succ i ih =>
    by_cases hk : S.toArray[i + 1]! = S.toArray[i]!
    ·exact ih (by omega) (by rw [← hxi, hk])
    ·exact ⟨i + 1, List.mem_filter.2 ⟨List.mem_range.2 hil, Lib.keeps_pos (by simpa using hk)⟩, hxi⟩
theorem ver_clone {w : World} {F : Nat → Prop} {v : Value} {l : List Ver.V} (h : Vrs w F v l) (hl : l.length ≤ 1000000) :
  Calls Tryz.prog 381 #[v] w fun e w' => ∃ v', e = .returned v' ∧ RowsOwn 51 2 verV w l v' w' := by
 obtain ⟨i0, hi0, hz0, hz1, hz2⟩ := ver_parts verInfo
 have hb0 : Below w.heap.size w (w.alloc (.cells #[] 51)) := (Below.refl _ _).alloc (Nat.le_refl _) _
 have hr := h.below hb0
 have h0own : (w.alloc (.cells #[] 51)).ownsRow w.heap.size 51 2 (.slice (some ⟨w.heap.size, 0, none⟩) 0 0) 0 [] := World.ownsRow_made w #[] 0 (Nat.le_refl _) (by decide) rfl
 obtain ⟨A, cap, rfl, hcap, hat⟩ := h
 have q22 : ∀ (w : World) (a : Option Addr) (n c n' c' : Nat), (binOp .eql 33 (.slice a n c) (.slice none n' c')).run Tryz.prog w = .ok (.bool a.isNone) w := fun w a n c n' c' => Lib.run_eql_slice_nil w _ _ a n c n' c' Tryz.underlying33
 cases A with
 | none =>
  have h0 : l.length = 0 := Nat.eq_zero_of_not_pos (fun hp => by obtain ⟨b, o, e, -⟩ := hat hp; cases e)
  have hf : l = [] := List.eq_nil_of_length_eq_zero h0
  subst hf
  clear hr hat
  go_enter Tryz.func381, Tryz.ntmps381
  go_wp2_with fail
  go_ret
  exact ⟨_, rfl, RowsOwn.start _ _ _ w⟩
 | some ad =>
  clear hat
  go_enter Tryz.func381, Tryz.ntmps381
  go_wp2_with (at_builtin; refine wp_joins (f := verV) (k := 2) rfl _ _ 33 rfl w.heap.size 51 i0 (.agg #[.int .i64 0, .int .i64 0]) 16 Tryz.underlying33 hi0 hz0 hz1 hz2 rfl (by decide) rfl rfl h0own hr (fun _ _ => rfl) (fun x _ => ver_one x) ?a1 ?a2 ?a3 ?_)
  case a1 => unfold maxLen; omega
  case a2 => omega
  case a3 => simp
  intro v2 w2 own2 hg2 _
  have F2 := Lib.hid (RowsOwn.front (l := l) (f := verV) (k := 2) (t := 51) hg2 (by rw [Nat.zero_add, List.nil_append]; exact own2))
  clear own2 hg2 hr h0own
  go_wp2_with fail
  go_ret
  exact ⟨_, rfl, F2.out⟩
theorem ver_sortfn {w wr : World} {v : Value} {l : List Ver.V} (h : RowsOwn 51 2 verV w l v wr) (hl : l.length ≤ 1000000) :
  Calls Tryz.prog 382 #[v, .func (.func 383) #[] #[]] wr fun e w' => e = .returned (.tuple #[]) ∧ ∃ S : List Ver.V, RowsOwn 51 2 verV w S v w' ∧ S.Perm l ∧ ∀ (i j : Nat) (x y : Ver.V), i < j → S[i]? = some x → S[j]? = some y → ¬ Ver.Before y x := by
 rcases Nat.eq_zero_or_pos l.length with h0 | h0
 ·have hl0 : l = [] := List.eq_nil_of_length_eq_zero h0
  subst hl0
  obtain ⟨A, cap, e, -⟩ := (h.rows (fun _ _ => rfl)).parts
  rw [List.length_nil] at e
  subst e
  refine (AnyF.slices_SortFunc_none (P := Tryz.prog) (ρ := Tryz.sortVr_ren) { Tryz.sortVr with } A cap _ wr).mono ?_
  rintro e w' ⟨rfl, rfl⟩
  exact ⟨rfl, [], h, List.Perm.refl _, fun i j x y _ hx _ => by simp at hx⟩
 ·obtain ⟨g, cap, rfl, hg0, hgl⟩ := h.1.form (by omega)
  have eg : ∀ args w, (callFunc 383 args).run Tryz.prog w = .ok (.enter 383 args) w := enters_of Tryz.func383 (by kernel_rfl) rfl
  have hcon := AnyQ.slices_SortFunc Tryz.sortVr 2 Tryz.isAgg51 Tryz.sizeOf51 verV ver_len ver_one Ver.order swo_order 383 #[] g 0 cap l.toArray wr eg (fun _ _ _ _ x y => ver_order _ x y) (own_holds ver_len (by decide) h.1) hgl (by simp; omega)
  refine hcon.mono ?_
  rintro e w' ⟨rfl, d, n, os, hp, hs, rfl⟩
  obtain ⟨hperm, hsz⟩ := perm_list hp
  refine ⟨rfl, d.toList, h.sorted ver_len (by decide) hsz, hperm, fun i j x y hij hx hy => ?_⟩
  rw [Array.getElem?_toList] at hx hy
  obtain ⟨hi, ex⟩ := Array.getElem?_eq_some_iff.1 hx
  obtain ⟨hj, ey⟩ := Array.getElem?_eq_some_iff.1 hy
  have hlt := hs i j (Nat.zero_le _) hij (by simpa [hsz] using hj)
  rw [lt_order, getElem!_pos d i hi, getElem!_pos d j hj, ex, ey] at hlt
  exact of_decide_eq_false hlt
theorem ver_sort {w : World} {F : Nat → Prop} {v : Value} {l : List Ver.V} (h : Vrs w F v l) (hl : l.length ≤ 1000000) :
  Calls Tryz.prog 348 #[v] w fun e w' => ∃ v', e = .returned v' ∧ RowsOwn 51 2 verV w (Ver.sort l) v' w' := by
 have C := Lib.hid (ver_clone h hl)
 have SO := Lib.hid (fun (B : World) (x : Value) (hx : RowsOwn 51 2 verV w l x B) => ver_sortfn hx hl)
 have CO := Lib.hid (fun (B : World) (x : Value) (S : List Ver.V) (hs : S.length ≤ 1000000) (hx : RowsOwn 51 2 verV w S x B) => ver_compact hx hs)
 clear h
 go_enter Tryz.func348, Tryz.ntmps348
 go_wp2_with fail
 refine (C.out).mono ?_
 rintro e w1 ⟨x, rfl, hx⟩
 have HX := Lib.hid hx
 clear hx
 go_wp2_with fail
 refine (SO.out _ _ HX.out).mono ?_
 rintro e w2 ⟨rfl, S, hS, hperm, hup⟩
 have HS := Lib.hid hS
 have hSl : S.length ≤ 1000000 := by rw [hperm.length_eq]; exact hl
 have hfin : Hid (Ver.sort l = Lib.compact S) := Lib.hid (by
  obtain ⟨h1, h2⟩ := compact_sort hup
  exact Ver.sort_is h1 (fun x => (h2 x).trans hperm.mem_iff))
 clear hS hperm hup
 go_wp2_with fail
 refine (CO.out _ _ _ hSl HS.out).mono ?_
 rintro e w3 ⟨v3, rfl, h3⟩
 have H3 := Lib.hid h3
 clear h3
 go_wp2_with fail
 go_ret
 exact ⟨_, rfl, by rw [hfin.out]; exact H3.out⟩
open Go.RowKit Go.Sort
open Go.RowKit Go.Sort
theorem vers_ok : VersOk where
 check := fun v h => ver_check _ v h
 stamp := fun s h => ver_stamp _ s h
 before := fun a b => ver_before _ a b
 sort := fun h hl => (ver_sort h hl).mono (fun e w' ⟨v', he, hr⟩ => ⟨v', he, hr.rows (fun _ _ => rfl), hr.2⟩)
open Go.RowKit Go.Sort
def Finds (w : World) (S : List Ver.V) (fv : Value) : Prop := ∃ B s F, fv = .func (.func 402) #[] #[.pointer (some ⟨B, 0, none⟩)] ∧ B < w.heap.size ∧ w.cell? ⟨B, 0, none⟩ = some s ∧ Vrs w F s S ∧ Ver.Up S ∧ S.length ≤ 1000000
theorem Finds.below {w w' : World} {S : List Ver.V} {fv : Value} (h : Finds w S fv) (hb : Below w.heap.size w w') : Finds w' S fv := by
 obtain ⟨B, s, F, e, hB, hc, hs, hu, hl⟩ := h
 exact ⟨B, s, F, e, Nat.lt_of_lt_of_le hB hb.size, (hb.cell (p := ⟨B, 0, none⟩) hB).trans hc, hs.below hb, hu, hl⟩
theorem finder_is (Z : VersOk) {w : World} {S : List Ver.V} {B : Nat} {s : Value} {F : Nat → Prop} (hc : w.cell? ⟨B, 0, none⟩ = some s) (hs : Vrs w F s S) (hu : Ver.Up S) (hl : S.length ≤ 1000000) (x : Ver.V) :
  Calls Tryz.prog 402 #[verA x, .pointer (some ⟨B, 0, none⟩)] w fun e w' => e = .returned (.bool (decide (x ∈ S))) ∧ Laid w w' := by
 have mixed : Tryz.prog.follows .mixedOrders = true := by kernel_rfl
 obtain ⟨A, cap, rfl, hcap⟩ := hs.parts
 have H := Lib.hid hs
 have HU := Lib.hid hu
 have HLn := Lib.hid hl
 have hBW := World.block_lt_of_cell? w _ hc
 have hc1 : (w.alloc (.cells #[.int .i64 x.by_, .int .i64 x.n] 51)).cell? ⟨B, 0, none⟩ = some (.slice A S.length cap) := ((Laid.new w _).below.cell (p := ⟨B, 0, none⟩) hBW).trans hc
 obtain ⟨x1, x2⟩ := x
 simp only at hc1
 have LB := Lib.hid (Laid.new w (.cells #[.int .i64 x1, .int .i64 x2] 51))
 have XB := Lib.hid (iset_boxed w x1 x2)
 have BE := Lib.hid (fun W (y : Ver.V) => Z.before (w := W) y ⟨x1, x2⟩)
 have BF := Lib.hid (fun W (y : Ver.V) => Z.before (w := W) ⟨x1, x2⟩ y)
 clear hc hs hu hl hBW
 go_enter Tryz.func402, Tryz.ntmps402
 go_wp2_with fail
 go_step3
 go_wp2_with fail
 go_step3
 go_wp2_with fail
 go_loopw [4] (fun v wr => ∃ (m : List Ver.V) (A : Option Addr) (cap : Nat), v = .slice A m.length cap ∧ m.length ≤ 1000000 ∧ Hid (Vrs wr F v m ∧ Ver.Up m ∧ ((⟨x1, x2⟩ : Ver.V) ∈ S ↔ (⟨x1, x2⟩ : Ver.V) ∈ m)) ∧ Laid (w.alloc (.cells #[.int .i64 x1, .int .i64 x2] 51)) wr) (fun v _ => match v with | .slice _ n _ => n | _ => 0)
 case atStart => exact ⟨S, A, cap, rfl, HLn.out, Lib.hid ⟨H.out.below LB.out.below, HU.out, Iff.rfl⟩, Laid.refl _⟩
 case round =>
  obtain ⟨m, A, cap, rfl, hml, hm, hlaid⟩ := hrel
  have HLD := Lib.hid hlaid
  have HL := Lib.hid (LB.out.trans hlaid)
  by_cases h0 : 0 < m.length
  ·obtain ⟨b, o, cap1, e, hcc, -, hb⟩ := hm.out.1.block h0
   injection e with e1 e2 e3
   subst e1 e3
   clear e2
   have hd0 : m.length / 2 < m.length := by omega
   have hdiv : (m.length : Int) / 2 = ((m.length / 2 : Nat) : Int) := by omega
   have htd : (m.length : Int).tdiv 2 = ((m.length / 2 : Nat) : Int) := by rw [Int.tdiv_eq_ediv_of_nonneg (by omega)]; omega
   obtain ⟨y, hy⟩ : ∃ y, m[m.length / 2]? = some y := ⟨_, List.getElem?_eq_getElem hd0⟩
   have Hy := Lib.hid hy
   have Hd := Lib.hid hd0
   have Hcap := Lib.hid hcc
   obtain ⟨c0, c1⟩ := Vrs.at hm.out.1 hy
   generalize hi : m.length / 2 = i at *
   obtain ⟨q0, q1⟩ := XB.out _ hlaid
   have C0 := cells_grown c0
   have C1 := cells_grown c1
   have Q0 := cells_grown q0
   have Q1 := cells_grown q1
   have hi0 : (0 : Int) ≤ (i : Int) := by omega
   have hi1 : (i : Int) < (m.length : Int) := by omega
   have hm0 : (0 : Int) < (m.length : Int) := by omega
   have hmc : (m.length : Int) ≤ (cap : Int) := by omega
   have hml' : (m.length : Int) ≤ 1000000 := by omega
   clear hlaid hy
   by_cases hb1 : Ver.Before y ⟨x1, x2⟩
   ·have BY : Hid (∀ W, Calls Tryz.prog 226 #[.agg #[.int .i64 y.by_, .int .i64 y.n], .agg #[.int .i64 x1, .int .i64 x2]] W fun e w' => e = .returned (.bool true) ∧ ∃ q os, w' = grow (W.drewN q) os) := Lib.hid (fun W => by have := BE.out W y; simp only [hb1, decide_true] at this; exact this)
    have hnext := Lib.hid (Iset.half_up hm.out.2.1 Hy.out hb1)
    have hlen : Hid ((m.drop (i + 1)).length = m.length - (i + 1)) := Lib.hid List.length_drop
    have hdr := Lib.hid (hm.out.1.drop rfl (i + 1) (by omega) (cap - (i + 1)) (by omega))
    clear hb1 c0 c1 q0 q1
    by_cases hc1 : i + 1 = cap
    ·have hc1' : (i : Int) + 1 = (cap : Int) := by omega
     have hz : Hid (m.drop (i + 1) = []) := Lib.hid (List.drop_of_length_le (by have := Hcap.out; omega))
     go_wp2_with fail
     go_quiet_grown (first | (go_at_call 226; with_reducible refine Calls.grown_of (BY.out _)))
     have HG : Hid (Laid wr (grow (wr.drewN nq) osq)) := Lib.hid ⟨nq, osq, rfl⟩
     generalize grow (wr.drewN nq) osq = W at *
     go_wp2_with fail
     exact ⟨⟨[], _, _, rfl, Nat.zero_le _, Lib.hid ⟨Rws.empty _ _ _ _, List.Pairwise.nil, by have := hnext.out.2; rw [hz.out] at this; exact hm.out.2.2.trans this⟩, HLD.out.trans HG.out⟩, h0⟩
    ·have hc1' : ¬ (i : Int) + 1 = (cap : Int) := by omega
     go_wp2_with fail
     go_quiet_grown (first | (go_at_call 226; with_reducible refine Calls.grown_of (BY.out _)))
     have HG : Hid (Laid wr (grow (wr.drewN nq) osq)) := Lib.hid ⟨nq, osq, rfl⟩
     generalize grow (wr.drewN nq) osq = W at *
     go_wp2_with fail
     exact ⟨⟨m.drop (i + 1), _, _, by rw [hlen.out], by rw [hlen.out]; omega, Lib.hid ⟨Rws.below hdr.out HG.out.below, hnext.out.1, hm.out.2.2.trans hnext.out.2⟩, HLD.out.trans HG.out⟩, by show m.length - (i + 1) < m.length; omega⟩
   ·have BN : Hid (∀ W, Calls Tryz.prog 226 #[.agg #[.int .i64 y.by_, .int .i64 y.n], .agg #[.int .i64 x1, .int .i64 x2]] W fun e w' => e = .returned (.bool false) ∧ ∃ q os, w' = grow (W.drewN q) os) := Lib.hid (fun W => by have := BE.out W y; simp only [hb1, decide_false] at this; exact this)
    by_cases hb2 : Ver.Before ⟨x1, x2⟩ y
    ·have BY : Hid (∀ W, Calls Tryz.prog 226 #[.agg #[.int .i64 x1, .int .i64 x2], .agg #[.int .i64 y.by_, .int .i64 y.n]] W fun e w' => e = .returned (.bool true) ∧ ∃ q os, w' = grow (W.drewN q) os) := Lib.hid (fun W => by have := BF.out W y; simp only [hb2, decide_true] at this; exact this)
     have hnext := Lib.hid (Iset.half_low hm.out.2.1 Hy.out hb2)
     have hlen : Hid ((m.take i).length = i) := Lib.hid (by rw [List.length_take]; omega)
     have htk := Lib.hid (hm.out.1.take rfl i (by omega) cap (by have := Hcap.out; omega))
     have hic : (i : Int) ≤ (cap : Int) := by have := Hcap.out; omega
     clear hb1 hb2 c0 c1 q0 q1
     go_wp2_with fail
     go_quiet_grown (first | (go_at_call 226; with_reducible refine Calls.grown_of (BN.out _)))
     have HG : Hid (Laid wr (grow (wr.drewN nq) osq)) := Lib.hid ⟨nq, osq, rfl⟩
     generalize grow (wr.drewN nq) osq = W at *
     obtain ⟨c0, c1⟩ := Vrs.at (Rws.below hm.out.1 HG.out.below) Hy.out
     obtain ⟨q0, q1⟩ := XB.out _ (HLD.out.trans HG.out)
     clear C0 C1 Q0 Q1
     have C0 := cells_grown c0
     have C1 := cells_grown c1
     have Q0 := cells_grown q0
     have Q1 := cells_grown q1
     clear c0 c1 q0 q1
     go_wp2_with fail
     go_quiet_grown (first | (go_at_call 226; with_reducible refine Calls.grown_of (BY.out _)))
     have HG2 : Hid (Laid wr (grow (W.drewN nq) osq)) := Lib.hid (HG.out.trans ⟨nq, osq, rfl⟩)
     generalize grow (W.drewN nq) osq = W2 at *
     go_wp2_with fail
     exact ⟨⟨m.take i, _, _, by rw [hlen.out], by rw [hlen.out]; omega, Lib.hid ⟨Rws.below htk.out HG2.out.below, hnext.out.1, hm.out.2.2.trans hnext.out.2⟩, HLD.out.trans HG2.out⟩, by show i < m.length; exact Hd.out⟩
    ·have BY : Hid (∀ W, Calls Tryz.prog 226 #[.agg #[.int .i64 x1, .int .i64 x2], .agg #[.int .i64 y.by_, .int .i64 y.n]] W fun e w' => e = .returned (.bool false) ∧ ∃ q os, w' = grow (W.drewN q) os) := Lib.hid (fun W => by have := BF.out W y; simp only [hb2, decide_false] at this; exact this)
     have hin : Hid ((⟨x1, x2⟩ : Ver.V) ∈ S) := Lib.hid (hm.out.2.2.2 (Iset.half_here Hy.out hb1 hb2))
     clear hb1 hb2 c0 c1 q0 q1
     go_wp2_with fail
     go_quiet_grown (first | (go_at_call 226; with_reducible refine Calls.grown_of (BN.out _)))
     have HG : Hid (Laid wr (grow (wr.drewN nq) osq)) := Lib.hid ⟨nq, osq, rfl⟩
     generalize grow (wr.drewN nq) osq = W at *
     obtain ⟨c0, c1⟩ := Vrs.at (Rws.below hm.out.1 HG.out.below) Hy.out
     obtain ⟨q0, q1⟩ := XB.out _ (HLD.out.trans HG.out)
     clear C0 C1 Q0 Q1
     have C0 := cells_grown c0
     have C1 := cells_grown c1
     have Q0 := cells_grown q0
     have Q1 := cells_grown q1
     clear c0 c1 q0 q1
     go_wp2_with fail
     go_quiet_grown (first | (go_at_call 226; with_reducible refine Calls.grown_of (BY.out _)))
     have HG2 : Hid (Laid w (grow (W.drewN nq) osq)) := Lib.hid ((HL.out.trans HG.out).trans ⟨nq, osq, rfl⟩)
     generalize grow (W.drewN nq) osq = W2 at *
     go_wp2_with fail
     try go_step3
     go_wp2_with fail
     try rw [Exit.noGoto_ret]
     go_ret
     exact ⟨by rw [decide_eq_true hin.out]; rfl, HG2.out⟩
  ·have hm0 : m.length = 0 := by omega
   have hnil : m = [] := List.eq_nil_of_length_eq_zero hm0
   subst hnil
   have hout : Hid (¬ (⟨x1, x2⟩ : Ver.V) ∈ S) := Lib.hid (fun k => by have := hm.out.2.2.1 k; simp at this)
   clear hm hlaid h0 hm0
   go_wp2_with fail
   try rw [Exit.noGoto_ret]
   go_ret
   exact ⟨by rw [decide_eq_false hout.out]; rfl, HL.out⟩
theorem Finds.calls (Z : VersOk) {w : World} {S : List Ver.V} {B : Nat} (h : Finds w S (.func (.func 402) #[] #[.pointer (some ⟨B, 0, none⟩)])) (x : Ver.V) :
  Calls Tryz.prog 402 #[verA x, .pointer (some ⟨B, 0, none⟩)] w fun e w' => e = .returned (.bool (decide (x ∈ S))) ∧ Laid w w' := by
 obtain ⟨B', s, F, e, -, hc, hs, hu, hl⟩ := h
 have eb : B = B' := by simpa using e
 subst eb
 exact finder_is Z hc hs hu hl x
open Go.RowKit Go.Sort
theorem iset_of (Z : VersOk) {w : World} {F : Nat → Prop} {v : Value} {l : List Ver.V} (h : Vrs w F v l) (hl : l.length ≤ 1000000) :
  Calls Tryz.prog 285 #[v] w fun e w' => ∃ v', e = .returned v' ∧ Vrs w' (NewIn w w') v' (Ver.sort l) ∧ Below w.heap.size w w' := by
 have SO := Lib.hid (Z.sort h hl)
 clear h
 go_enter Tryz.func285, Tryz.ntmps285
 go_wp2_with fail
 refine (SO.out).mono ?_
 rintro e w1 ⟨v1, rfl, h1, h2⟩
 have H1 := Lib.hid h1
 have H2 := Lib.hid h2
 clear h1 h2
 go_wp2_with fail
 go_ret
 exact ⟨_, rfl, H1.out, H2.out⟩
theorem ver_index {w : World} {F : Nat → Prop} {v : Value} {l : List Ver.V} (x : Ver.V) (h : Vrs w F v l) (hl : l.length ≤ 1000000) :
  Calls Tryz.prog 349 #[v, verA x] w fun e w' => (∃ k : Int, e = .returned (.int .i64 k) ∧ decide (0 ≤ k) = decide (x ∈ l)) ∧ Laid w w' := by
 obtain ⟨A, cap, rfl, hcap⟩ := h.parts
 have H := Lib.hid h
 have hl' : (l.length : Int) ≤ 1000000 := by omega
 obtain ⟨x1, x2⟩ := x
 have LB := Lib.hid (Laid.new w (.cells #[.int .i64 x1, .int .i64 x2] 51))
 have XB := Lib.hid (iset_boxed w x1 x2)
 clear h
 go_enter Tryz.func349, Tryz.ntmps349
 go_wp2_with fail
 go_loopw [8] (fun i wr => ∃ n : Nat, n ≤ l.length ∧ i = .int .i64 (n : Int) ∧ Hid ((⟨x1, x2⟩ : Ver.V) ∉ l.take n) ∧ Laid (w.alloc (.cells #[.int .i64 x1, .int .i64 x2] 51)) wr) (fun i _ => l.length - (intOf i).toNat)
 case atStart => exact ⟨0, Nat.zero_le _, rfl, Lib.hid (by simp), Laid.refl _⟩
 case round =>
  obtain ⟨n, hn, rfl, hnot, hlaid⟩ := hrel
  have HL := Lib.hid (LB.out.trans hlaid)
  have HLD := Lib.hid hlaid
  by_cases hlt : n < l.length
  ·obtain ⟨b, o, cap1, e, -, -, hb⟩ := H.out.block (by omega)
   injection e with e1 e2 e3
   subst e1 e3
   clear e2
   obtain ⟨y, hy⟩ : ∃ y, l[n]? = some y := ⟨_, List.getElem?_eq_getElem hlt⟩
   obtain ⟨c0, c1⟩ := Vrs.at (H.out.below HL.out.below) hy
   obtain ⟨q0, q1⟩ := XB.out _ hlaid
   have hn0 : (0 : Int) ≤ (n : Int) := by omega
   have hn1 : (n : Int) < (l.length : Int) := by omega
   clear hlaid
   by_cases hxy : y = ⟨x1, x2⟩
   ·have hin : Hid ((⟨x1, x2⟩ : Ver.V) ∈ l) := Lib.hid (by rw [← hxy]; exact List.mem_of_getElem? hy)
    subst hxy
    simp only at c0 c1
    clear hy hnot
    go_wp2_with fail
    go_quiet (fail)
    go_wp2_with fail
    go_ret
    exact ⟨⟨(n : Int), rfl, by rw [decide_eq_true hin.out]; exact decide_eq_true (Int.natCast_nonneg n)⟩, HL.out.trans ⟨nq, #[], by rw [grow_empty]⟩⟩
   ·have hnext := Lib.hid (Iset.not_take hy hnot.out hxy)
    obtain ⟨y1, y2⟩ := y
    simp only at c0 c1
    have hxy' : x1 = y1 → ¬ x2 = y2 := fun h k => hxy (by rw [h, k])
    clear hy hnot hxy
    by_cases h1 : x1 = y1
    ·have h2 := hxy' h1
     subst h1
     clear hxy'
     go_wp2_with fail
     go_quiet (fail)
     go_wp2_with fail
     exact ⟨⟨n + 1, by omega, by go_num, hnext, HLD.out.trans ⟨nq, #[], by rw [grow_empty]⟩⟩, by show l.length - ((n : Int) + 1).toNat < l.length - (n : Int).toNat; omega⟩
    ·clear hxy'
     go_wp2_with fail
     go_quiet (fail)
     go_wp2_with fail
     exact ⟨⟨n + 1, by omega, by go_num, hnext, HLD.out.trans ⟨nq, #[], by rw [grow_empty]⟩⟩, by show l.length - ((n : Int) + 1).toNat < l.length - (n : Int).toNat; omega⟩
  ·obtain rfl : n = l.length := by omega
   have hout : Hid (¬ (⟨x1, x2⟩ : Ver.V) ∈ l) := Lib.hid (by have := hnot.out; rwa [List.take_length] at this)
   clear hlaid hnot
   go_wp2_with fail
   go_ret
   exact ⟨⟨-1, rfl, by rw [decide_eq_false hout.out]; rfl⟩, HL.out⟩
theorem ver_contains {w : World} {F : Nat → Prop} {v : Value} {l : List Ver.V} (x : Ver.V) (h : Vrs w F v l) (hl : l.length ≤ 1000000) :
  Calls Tryz.prog 289 #[v, verA x] w fun e w' => e = .returned (.bool (decide (x ∈ l))) ∧ Laid w w' := by
 have LB := Lib.hid (Laid.new w (.cells #[.int .i64 x.by_, .int .i64 x.n] 51))
 have IX := Lib.hid (ver_index x (h.below LB.out.below) hl)
 obtain ⟨x1, x2⟩ := x
 simp only at LB IX
 clear h
 generalize decide ((⟨x1, x2⟩ : Ver.V) ∈ l) = r at *
 go_enter Tryz.func289, Tryz.ntmps289
 go_wp2_with fail
 refine (IX.out).mono ?_
 rintro e w1 ⟨⟨k, rfl, hk⟩, h1⟩
 have H1 := Lib.hid (LB.out.trans h1)
 have HK := Lib.hid hk
 clear h1 hk
 go_wp2_with fail
 go_ret
 exact ⟨by rw [← HK.out]; first | rfl | simp, H1.out⟩
theorem iset_has {w : World} {F : Nat → Prop} {v : Value} {l : List Ver.V} (x : Ver.V) (h : Vrs w F v l) (hl : l.length ≤ 1000000) :
  Calls Tryz.prog 195 #[v, verA x] w fun e w' => e = .returned (.bool (decide (x ∈ l))) ∧ Below w.heap.size w w' := by
 have LB := Lib.hid (Laid.new w (.cells #[.int .i64 x.by_, .int .i64 x.n] 51))
 have IX := Lib.hid (ver_contains x (h.below LB.out.below) hl)
 obtain ⟨x1, x2⟩ := x
 simp only at LB IX
 clear h
 generalize decide ((⟨x1, x2⟩ : Ver.V) ∈ l) = r at *
 go_enter Tryz.func195, Tryz.ntmps195
 go_wp2_with fail
 refine (IX.out).mono ?_
 rintro e w1 ⟨rfl, h1⟩
 have H1 := Lib.hid (LB.out.trans h1)
 clear h1
 go_wp2_with fail
 go_ret
 exact ⟨rfl, H1.out.below⟩
theorem finder_made (Z : VersOk) {w : World} {F : Nat → Prop} {v : Value} {l : List Ver.V} (h : Vrs w F v l) (hl : l.length ≤ 1000000) :
  Calls Tryz.prog 376 #[v] w fun e w' => ∃ fv, e = .returned fv ∧ Finds w' (Ver.sort l) fv ∧ Below w.heap.size w w' := by
 have SO := Lib.hid (iset_of Z h hl)
 have HS : Hid ((Ver.sort l).length ≤ 1000000) := Lib.hid (Nat.le_trans (Ver.sort_len l) hl)
 clear h
 go_enter Tryz.func376, Tryz.ntmps376
 go_wp2_with fail
 refine (SO.out).mono ?_
 rintro e w1 ⟨v1, rfl, h1, h2⟩
 obtain ⟨A, cap, rfl, -⟩ := h1.parts
 have hb : Below w1.heap.size w1 (w1.alloc (.cells #[.slice A (Ver.sort l).length cap] 33)) := (Below.refl _ _).alloc (Nat.le_refl _) _
 have HF : Hid (Finds (w1.alloc (.cells #[.slice A (Ver.sort l).length cap] 33)) (Ver.sort l) (.func (.func 402) #[] #[.pointer (some ⟨w1.heap.size, 0, none⟩)])) := Lib.hid ⟨w1.heap.size, _, _, rfl, by simp, (Row.made w1 33 #[.slice A (Ver.sort l).length cap]).at 0, Rws.below h1 hb, Ver.sort_up l, HS.out⟩
 have HB := Lib.hid (h2.trans (hb.mono h2.size))
 clear h1 h2 hb
 go_wp2_with fail
 go_ret
 exact ⟨_, rfl, HF.out, HB.out⟩
def Apart (u v : Value) : Prop := ∀ g, u.ownBlock = some g → v.ownBlock ≠ some g
theorem Apart.none (v : Value) : Apart (.slice none 0 0) v := fun g hg => by cases hg
theorem Apart.symm {u v : Value} (h : Apart u v) : Apart v u := fun g hg k => h g k hg
open Go.RowKit Go.Shelf Go.Lib
theorem iset_grow (n : Nat) (hn : n ≤ 2000000) (w : World) :
  Calls Tryz.prog 395 #[.slice none 0 0, .int .i64 (n : Int)] w fun e w' => ∃ v, e = .returned v ∧ RowsOwn 51 2 verV w [] v w' := by
 obtain ⟨i0, hi0, hz0, hz1, hz2⟩ := ver_parts verInfo
 by_cases h0 : n = 0
 ·subst h0
  refine (Any8.slices_Grow_room Tryz.growVr none 0 0 0 w (Nat.le_refl _) (by omega) (by omega) (by omega)).mono ?_
  rintro e w' ⟨rfl, rfl⟩
  exact ⟨_, rfl, RowsOwn.start _ _ _ _⟩
 ·refine (Any8.slices_Grow_grow Tryz.growVr i0 (.agg #[.int .i64 0, .int .i64 0]) hi0 hz0 (by omega) none 0 0 n [] w (Nat.le_refl _) (by omega) (by rw [hz2]; omega) (by omega) (by simp) (fun _ => rfl) (fun a h => by cases h)).mono ?_
  rintro e w' ⟨rfl, rfl⟩
  refine ⟨_, rfl, ?_, ((Below.refl _ w).drew).alloc (Nat.le_refl _) _⟩
  have hG := grownCap_ge w (0 + n) 0 (Tryz.growVr_ren.t 25)
  have hM := grownCap_le_maxLen w (0 + n) 0 (Tryz.growVr_ren.t 25) (by unfold maxLen; omega)
  refine World.ownsRow_made w.drew _ _ (Nat.le_refl _) hM ?_
  have hzc : (Value.agg #[.int .i64 0, .int .i64 0]).cells.size = 2 := rfl
  simp only [Array.size_append, size_zeroCells, hzc, List.size_toArray, List.length_nil]
  omega
theorem iset_concat {w : World} {F G : Nat → Prop} {u v : Value} {a b : List Ver.V} {bk : Nat} (ha : Vrs w F u a) (hb : Vrs w G v b) (la : a.length ≤ 500000) (lb : b.length ≤ 500000) (c0 : w.cell? ⟨bk, 0, none⟩ = some u) (c1 : w.cell? ⟨bk, 1, none⟩ = some v) (hk : bk < w.heap.size) :
  Calls Tryz.prog 360 #[.slice (some ⟨bk, 0, none⟩) 2 2] w fun e w' => ∃ v', e = .returned v' ∧ RowsOwn 51 2 verV w (a ++ b) v' w' := by
 obtain ⟨i0, hi0, hz0, hz1, hz2⟩ := ver_parts verInfo
 obtain ⟨A, c, rfl, hc⟩ := ha.parts
 obtain ⟨B, d, rfl, hd⟩ := hb.parts
 have HA := Lib.hid ha
 have HB := Lib.hid hb
 have la0 : (a.length : Int) ≤ 500000 := by omega
 have lb0 : (b.length : Int) ≤ 500000 := by omega
 have la1 : (0 : Int) ≤ (a.length : Int) := by omega
 have lb1 : (0 : Int) ≤ (b.length : Int) := by omega
 have HG : Hid (∀ W, Calls Tryz.prog 395 #[.slice none 0 0, .int .i64 ((a.length : Int) + (b.length : Int))] W fun e w' => ∃ v, e = .returned v ∧ RowsOwn 51 2 verV W [] v w') := Lib.hid (fun W => by
  have := iset_grow (a.length + b.length) (by omega) W
  rwa [Int.natCast_add] at this)
 clear ha hb
 go_enter Tryz.func360, Tryz.ntmps360
 go_wp2_with fail
 refine wp_loop_rounds 3 ?_
 rw [rounds_succ]
 go_wp2_with fail
 rw [rounds_succ]
 go_wp2_with fail
 rw [rounds_succ]
 go_wp2_with fail
 refine (HG.out w).mono ?_
 rintro e w1 ⟨v1, rfl, h1⟩
 have hg1 := HA.out.below h1.2
 have hz1' : w.heap.size ≤ w1.heap.size := h1.2.size
 have e0 : w1.cell? ⟨bk, 0, none⟩ = some (.slice A a.length c) := (h1.2.cell (p := ⟨bk, 0, none⟩) hk).trans c0
 have e1 : w1.cell? ⟨bk, 1, none⟩ = some (.slice B b.length d) := (h1.2.cell (p := ⟨bk, 1, none⟩) hk).trans c1
 have H1 := Lib.hid h1
 have own1 := h1.1
 clear h1 c0 c1
 go_wp2_with fail
 refine wp_loop_rounds 3 ?_
 rw [rounds_succ]
 go_wp2_with (at_builtin; refine wp_joins (f := verV) (k := 2) rfl _ _ 33 rfl w.heap.size 51 i0 (.agg #[.int .i64 0, .int .i64 0]) 16 Tryz.underlying33 hi0 hz0 hz1 hz2 rfl (by decide) rfl rfl own1 hg1 (fun _ _ => rfl) (fun x _ => ver_one x) ?c3 ?c4 hz1' ?_)
 case c3 => unfold maxLen; first | omega | (simp <;> omega)
 case c4 => first | omega | (simp <;> omega)
 intro v2 w2 j1 j2 j3
 have h2 : RowsOwn 51 2 verV w a v2 w2 := ⟨by simpa using j1, H1.out.2.grown j2 H1.out.2.size (fun k hk => (H1.out.1.lt k hk).1)⟩
 have hg2 := HB.out.below h2.2
 have hz2' : w.heap.size ≤ w2.heap.size := h2.2.size
 have f1 : w2.cell? ⟨bk, 1, none⟩ = some (.slice B b.length d) := (j2.cell e1 (fun e => by have := (H1.out.1.lt bk e.symm).1; omega))
 have H2 := Lib.hid h2
 have own2 := h2.1
 clear h2 j1 j2 j3 H1 own1 hg1 e0 e1
 go_wp2_with fail
 rw [rounds_succ]
 go_wp2_with (at_builtin; refine wp_joins (f := verV) (k := 2) rfl _ _ 33 rfl w.heap.size 51 i0 (.agg #[.int .i64 0, .int .i64 0]) 16 Tryz.underlying33 hi0 hz0 hz1 hz2 rfl (by decide) rfl rfl own2 hg2 (fun _ _ => rfl) (fun x _ => ver_one x) ?c3 ?c4 hz2' ?_)
 case c3 => unfold maxLen; first | omega | (simp <;> omega)
 case c4 => first | omega | (simp <;> omega)
 intro v3 w3 j1 j2 j3
 have h3 : RowsOwn 51 2 verV w (a ++ b) v3 w3 := ⟨by rw [List.length_append, List.flatMap_append]; exact j1, H2.out.2.grown j2 H2.out.2.size (fun k hk => (H2.out.1.lt k hk).1)⟩
 have H3 := Lib.hid h3
 clear h3 j1 j2 j3 H2 own2 hg2 f1
 go_wp2_with fail
 rw [rounds_succ]
 go_wp2_with fail
 go_ret
 exact ⟨v3, rfl, H3.out⟩
theorem iset_join (Z : VersOk) {w : World} {F G : Nat → Prop} {u v : Value} {a b : List Ver.V} (ha : Vrs w F u a) (hb : Vrs w G v b) (la : a.length ≤ 500000) (lb : b.length ≤ 500000) :
  Calls Tryz.prog 298 #[u, v] w fun e w' => ∃ v', e = .returned v' ∧ Vrs w' (NewIn w w') v' (Iset.join a b) ∧ Below w.heap.size w w' := by
 obtain ⟨A, c, rfl, hc⟩ := ha.parts
 obtain ⟨B, d, rfl, hd⟩ := hb.parts
 have hb0 : Below w.heap.size w (w.alloc (.cells #[.slice A a.length c, .slice B b.length d] 33)) := (Below.refl _ _).alloc (Nat.le_refl _) _
 have hrow := Row.made w 33 #[.slice A a.length c, .slice B b.length d]
 have HC := Lib.hid (iset_concat (ha.below hb0) (hb.below hb0) la lb (hrow.at 0) (hrow.at 1) (by simp))
 have Hb0 := Lib.hid hb0
 have HO := Lib.hid (fun (W : World) (x : Value) (hx : RowsOwn 51 2 verV (w.alloc (.cells #[.slice A a.length c, .slice B b.length d] 33)) (a ++ b) x W) => iset_of Z (hx.rows (fun _ _ => rfl)) (by rw [List.length_append]; omega))
 clear ha hb hb0 hrow
 go_enter Tryz.func298, Tryz.ntmps298
 go_wp2_with fail
 refine (HC.out).mono ?_
 rintro e w1 ⟨v1, rfl, h1⟩
 have HB1 := Lib.hid (Hb0.out.trans (h1.2.mono Hb0.out.size))
 have HN := Lib.hid (HO.out w1 v1 h1)
 clear h1
 go_wp2_with fail
 refine (HN.out).mono ?_
 rintro e w2 ⟨v2, rfl, h2, h3⟩
 have H2 : Hid (Vrs w2 (NewIn w w2) v2 (Iset.join a b)) := Lib.hid (h2.mono (fun i hi => ⟨Nat.le_trans HB1.out.size hi.1, hi.2⟩))
 have H3 := Lib.hid (HB1.out.trans (h3.mono HB1.out.size))
 clear h2 h3
 go_wp2_with fail
 go_ret
 exact ⟨v2, rfl, H2.out, H3.out⟩
theorem iset_put (Z : VersOk) {w : World} {F : Nat → Prop} {v : Value} {l : List Ver.V} (x : Ver.V) (h : Vrs w F v l) (hl : l.length ≤ 500000) :
  Calls Tryz.prog 210 #[v, verA x] w fun e w' => ∃ v', e = .returned v' ∧ Vrs w' (NewIn w w') v' (Iset.put l x) ∧ Below w.heap.size w w' := by
 have L0 := (Laid.new w (.cells #[.int .i64 x.by_, .int .i64 x.n] 51)).below
 have L1 := ((Laid.new w (.cells #[.int .i64 x.by_, .int .i64 x.n] 51)).trans (Laid.new _ (.cells #[.int .i64 x.by_, .int .i64 x.n] 51))).below
 have JO := Lib.hid (iset_join Z (h.below L1) (ver_made (w.alloc (.cells #[.int .i64 x.by_, .int .i64 x.n] 51)) 51 x) hl (by simp))
 have HJ : Hid (Iset.join l [x] = Iset.put l x) := Lib.hid (Iset.put_is l x)
 have HL := Lib.hid L1
 obtain ⟨A, cap, rfl, hcap⟩ := h.parts
 obtain ⟨x1, x2⟩ := x
 simp only at JO HL
 rw [World.size_alloc] at JO
 clear h L0 L1
 go_enter Tryz.func210, Tryz.ntmps210
 go_wp2_with fail
 refine (JO.out).mono ?_
 rintro e w1 ⟨v1, rfl, h1, h2⟩
 have H1 : Hid (Vrs w1 (NewIn w w1) v1 (Iset.put l ⟨x1, x2⟩)) := Lib.hid (by rw [← HJ.out]; exact h1.mono (fun i hi => ⟨Nat.le_trans HL.out.size hi.1, hi.2⟩))
 have H2 := Lib.hid (HL.out.trans (h2.mono HL.out.size))
 clear h1 h2
 go_wp2_with fail
 go_ret
 exact ⟨_, rfl, H1.out, H2.out⟩
theorem within_pred (Z : VersOk) {S : List Ver.V} {cb B : Nat} (w : World) (hf : Finds w S (.func (.func 402) #[] #[.pointer (some ⟨cb, 0, none⟩)])) (hB : B < w.heap.size) (hc : w.cell? ⟨B, 0, none⟩ = some (.func (.func 402) #[] #[.pointer (some ⟨cb, 0, none⟩)])) :
  PredBelow Tryz.prog 377 #[.pointer (some ⟨B, 0, none⟩)] (fun x : Ver.V => .agg (verV x).toArray) (fun x => !decide (x ∈ S)) w := fun W x hb => by
 have hc2 : W.cell? ⟨B, 0, none⟩ = some (.func (.func 402) #[] #[.pointer (some ⟨cb, 0, none⟩)]) := (hb.cell (p := ⟨B, 0, none⟩) hB).trans hc
 have LB := Lib.hid (Laid.new W (.cells #[.int .i64 x.by_, .int .i64 x.n] 51))
 have hc3 : (W.alloc (.cells #[.int .i64 x.by_, .int .i64 x.n] 51)).cell? ⟨B, 0, none⟩ = some (.func (.func 402) #[] #[.pointer (some ⟨cb, 0, none⟩)]) := (LB.out.below.cell (p := ⟨B, 0, none⟩) (Nat.lt_of_lt_of_le hB hb.size)).trans hc2
 have FC := Lib.hid (Finds.calls Z ((hf.below hb).below LB.out.below) x)
 have Hb := Lib.hid hb
 obtain ⟨x1, x2⟩ := x
 simp only at hc3 LB FC
 clear hb hc hB hf
 show Calls Tryz.prog 377 #[.agg #[.int .i64 x1, .int .i64 x2], .pointer (some ⟨B, 0, none⟩)] W _
 obtain ⟨r, hr⟩ : ∃ r, r = decide ((⟨x1, x2⟩ : Ver.V) ∈ S) := ⟨_, rfl⟩
 rw [← hr] at FC
 have HR := Lib.hid hr
 clear hr
 go_enter Tryz.func377, Tryz.ntmps377
 go_wp2_with fail
 refine (FC.out).mono ?_
 rintro e w1 ⟨rfl, h1⟩
 have H1 := Lib.hid (Hb.out.trans ((LB.out.trans h1).below.mono Hb.out.size))
 clear h1
 go_wp2_with fail
 go_ret
 exact ⟨by rw [HR.out]; rfl, H1.out⟩
theorem vidx_none (A : Option Addr) (c : Nat) (fv : Value) (w : World) :
  Calls Tryz.prog 398 #[.slice A 0 c, fv] w fun e w' => e = .returned (.int .i64 (-1)) ∧ w' = w := by
 go_enter Tryz.func398, Tryz.ntmps398
 go_wp2_with fail
 refine wp_loop_rounds 1 ?_
 rw [rounds_succ]
 go_wp2_with fail
 go_ret
 exact ⟨rfl, rfl⟩
theorem vhas_none (A : Option Addr) (c : Nat) (fv : Value) (w : World) :
  Calls Tryz.prog 367 #[.slice A 0 c, fv] w fun e w' => e = .returned (.bool false) ∧ w' = w := by
 go_enter Tryz.func367, Tryz.ntmps367
 go_wp2_with (go_at_call 398; refine (vidx_none _ _ _ _).mono ?_; rintro e w' ⟨rfl, rfl⟩)
 go_ret
 exact ⟨rfl, rfl⟩
theorem within_any (Z : VersOk) {w : World} {F : Nat → Prop} {v : Value} {l S : List Ver.V} (h : Vrs w F v l) (hl : l.length ≤ 1000000) {cb B : Nat} (hf : Finds w S (.func (.func 402) #[] #[.pointer (some ⟨cb, 0, none⟩)])) (hB : B < w.heap.size) (hc : w.cell? ⟨B, 0, none⟩ = some (.func (.func 402) #[] #[.pointer (some ⟨cb, 0, none⟩)])) :
  Calls Tryz.prog 367 #[v, .func (.func 377) #[] #[.pointer (some ⟨B, 0, none⟩)]] w fun e w' => e = .returned (.bool (l.any fun x => !decide (x ∈ S))) ∧ Below w.heap.size w w' := by
 by_cases h0 : 0 < l.length
 ·obtain ⟨A, cap, rfl, hcap, hat⟩ := h
  obtain ⟨b, o, rfl, -, hb, hcl⟩ := hat h0
  have eg : ∀ args w, (callFunc 377 args).run Tryz.prog w = .ok (.enter 377 args) w := enters_of Tryz.func377 (by kernel_rfl) rfl
  have hcon := AnyQ.slices_ContainsFunc Tryz.hasVr 2 Tryz.isAgg51 Tryz.sizeOf51 verV ver_len (fun x : Ver.V => !decide (x ∈ S)) 377 #[.pointer (some ⟨B, 0, none⟩)] eg b o l.length cap l w (within_pred Z w hf hB hc) (Nat.le_refl _) (by omega) hb
   (fun j hj i u hi => hcl j _ (by rw [List.getElem?_eq_getElem hj, getElem!_pos l j hj]) i u hi)
  rw [List.take_length] at hcon
  exact hcon
 ·have hl0 : l = [] := List.eq_nil_of_length_eq_zero (by omega)
  subst hl0
  obtain ⟨A, cap, rfl, -, -⟩ := h
  exact (vhas_none A cap _ w).mono (fun e w' h => ⟨h.1, by rw [h.2]; exact Below.refl _ _⟩)
theorem iset_within (Z : VersOk) {w : World} {F G : Nat → Prop} {u v : Value} {a b : List Ver.V} (h : Vrs w F u a) (k : Vrs w G v b) (hl : a.length ≤ 1000000) (hk : b.length ≤ 1000000) :
  Calls Tryz.prog 344 #[u, v] w fun e w' => e = .returned (.bool (decide (Iset.Within a b))) ∧ Below w.heap.size w w' := by
 have FI := Lib.hid (finder_made Z k hk)
 have hsf : ∀ (w : World) (a : Addr) (m : Mode) (fn : Fn) (fi ca : Array Value), (store a (.func fn fi ca) m).run Tryz.prog w = stored Tryz.prog w a (.func fn fi ca) m := fun w a m fn fi ca => run_store Tryz.prog w a _ m rfl
 have H := Lib.hid h
 have HLn := Lib.hid hl
 have HR : Hid ((!a.any fun x => !decide (x ∈ Ver.sort b)) = decide (Iset.Within a b)) := Lib.hid (by
  rw [Iset.within_is, decide_eq_decide]
  unfold Iset.Within
  simp only [Ver.sort_mem])
 clear h k hl hk
 generalize Ver.sort b = S at *
 go_enter Tryz.func344, Tryz.ntmps344
 go_wp2_with fail
 refine (FI.out).mono ?_
 rintro e w1 ⟨fv, rfl, hf, hb1⟩
 have HF := Lib.hid hf
 obtain ⟨cb, sv, Fs, rfl, -, -, -, -, -⟩ := hf
 have hb : Below w1.heap.size w1 (w1.alloc (.cells #[.func (.func 402) #[] #[.pointer (some ⟨cb, 0, none⟩)]] 125)) := (Below.refl _ _).alloc (Nat.le_refl _) _
 have HB := Lib.hid (hb1.trans (hb.mono hb1.size))
 have HC := Lib.hid (within_any Z (H.out.below HB.out) HLn.out (HF.out.below hb) (B := w1.heap.size) (by simp) ((Row.made w1 125 #[.func (.func 402) #[] #[.pointer (some ⟨cb, 0, none⟩)]]).at 0))
 clear hb1 hb
 go_wp2_with (go_at_call 367; refine (HC.out).mono ?_; rintro e w2 ⟨rfl, hb2⟩)
 have H2 := Lib.hid (HB.out.trans (hb2.mono HB.out.size))
 go_ret
 exact ⟨by rw [← HR.out]; rfl, H2.out⟩
theorem iset_of_vers (Z : VersOk) : IsetOk where
 ofl := fun h hl => iset_of Z h hl
 has := fun x h hl => iset_has x h hl
 put := fun x h hl => iset_put Z x h hl
 join := fun h k hl hk => iset_join Z h k hl hk
 within := fun h k hl hk => iset_within Z h k hl hk
theorem iset_ok : IsetOk := iset_of_vers vers_ok
end Go.Proofs.YtpafpegcodempaaGreat
