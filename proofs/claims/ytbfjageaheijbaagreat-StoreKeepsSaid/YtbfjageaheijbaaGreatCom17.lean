/- The landed store: a record, read as a transaction. -/
import Derived.Test.YtbfjageaheijbaaGreatCom16
import Derived.Test.YtbfjageaheijbaaGreatCom7
import Derived.Test.YtbfjageaheijbaaGreatCom15
import Derived.Test.YtbfjageaheijbaaGreatCom1
import Derived.Test.YtbfjageaheijbaaGreatCom14
import Derived.WalkSpells
import Derived.OwnWalk
import Derived.Deep.Slices
set_option linter.unusedSimpArgs false
set_option linter.unusedVariables false
namespace Go.Proofs.YtbfjageaheijbaaGreat
open Go.RowKit

set_option maxRecDepth 100000 in
theorem changeInfo : (Tryz.prog.info? 52).map (fun i => (i.zero, i.size, i.bytes)) = some (some (.agg #[.string ⟨#[]⟩, .string ⟨#[]⟩, .bool false]), 3, 40) := by kernel_rfl

set_option maxRecDepth 100000 in
theorem chV_one (c : Sto.Ch) : ∀ u ∈ chV c, u.oneCell' = true := by
  intro u hu
  unfold chV at hu
  simp only [List.mem_cons, List.not_mem_nil, or_false] at hu
  rcases hu with rfl | rfl | rfl <;> rfl

set_option maxRecDepth 100000 in
theorem Rws.made2 {α : Type} {k : Nat} {f : α → List Value} (w : World) (o : Obj) (t : TypeId) (l : List α) (hk : ∀ x ∈ l, (f x).length = k) :
    Rws k f ((w.alloc o).alloc (.cells (l.flatMap f).toArray t)) (fun i => i = w.heap.size + 1) (.slice (some ⟨w.heap.size + 1, 0, Option.none⟩) l.length l.length) l := by
  have h := Rws.made (f := f) (w.alloc o) t l hk
  rwa [show (w.alloc o).heap.size = w.heap.size + 1 by simp] at h

/-- How many bytes the reader at block b has left. -/
def leftIn (w : World) (b : Nat) : Nat := match w.cell? ⟨b, 0, none⟩ with | some (.string r) => r.size | _ => 0
set_option maxRecDepth 100000 in
theorem leftIn_eq {w : World} {b : Nat} {r : List UInt8} {e : Int} (h : RdL w b r e) : leftIn w b = r.length := by
  have h0 : w.cell? ⟨b, 0, none⟩ = some (.string ⟨r.toArray⟩) := Row.at h 0
  unfold leftIn
  rw [h0]
  exact mk_size r

/-- The error that read tells. -/
def parseE (o : Option (List Sto.Ch)) : Int := if o.isSome then 0 else 6

/-- While a record is read. -/
structure RdAt (w : World) (s : List UInt8) (v : Value) (wr : World) (r : List UInt8) (e1 : Int) (cs : List Sto.Ch) : Prop where
  rd : RdL wr w.heap.size r e1
  own : wr.ownsRow w.heap.size 52 3 v cs.length (cs.flatMap chV)
  bel : Below w.heap.size w wr
  few : cs.length + r.length ≤ s.length
  fine : e1 = 0 → (∃ f, Sto.parseF s.length s = (Sto.parseF f r).map (cs ++ ·) ∧ r.length ≤ f) ∧ (cs = [] → r = s)
  bad : e1 ≠ 0 → r = [] ∧ Sto.parse s = none

set_option maxRecDepth 100000 in
theorem RdAt.one {w wr : World} {s r : List UInt8} {v : Value} {cs : List Sto.Ch} (h : RdAt w s v wr r 0 cs) (hr : r ≠ []) {c : Sto.Ch} {n : Nat} (ho : Sto.one r = some (c, n)) :
    (∃ f, Sto.parseF s.length s = (Sto.parseF f (r.drop n)).map ((cs ++ [c]) ++ ·) ∧ (r.drop n).length ≤ f) ∧ (r.drop n).length < r.length := by
  obtain ⟨⟨f, hf, hle⟩, -⟩ := h.fine rfl
  have hn := Sto.one_fits ho
  have hp : 0 < r.length := List.length_pos_iff.2 hr
  obtain ⟨g, rfl⟩ : ∃ g, f = g + 1 := ⟨f - 1, by omega⟩
  have e : Sto.parseF (g + 1) r = (Sto.parseF g (r.drop n)).map (c :: ·) := by
    show (if r = [] then some [] else (Sto.one r).bind fun x => (Sto.parseF g (r.drop x.2)).map (x.1 :: ·)) = _
    rw [if_neg hr, ho]
    rfl
  have hd : (r.drop n).length = r.length - n := List.length_drop
  refine ⟨⟨g, ?_, by rw [hd]; have := hn.1; simp only at this; omega⟩, by rw [hd]; have := hn.1; simp only at this; omega⟩
  rw [hf, e, Option.map_map]
  congr 1
  funext l
  simp

set_option maxRecDepth 100000 in
theorem RdAt.nothing {w wr : World} {s r : List UInt8} {v : Value} {cs : List Sto.Ch} (h : RdAt w s v wr r 0 cs) (hr : r ≠ []) (ho : Sto.one r = none) : Sto.parse s = none := by
  obtain ⟨⟨f, hf, hle⟩, -⟩ := h.fine rfl
  have hp : 0 < r.length := List.length_pos_iff.2 hr
  obtain ⟨g, rfl⟩ : ∃ g, f = g + 1 := ⟨f - 1, by omega⟩
  have e : Sto.parseF (g + 1) r = none := by
    show (if r = [] then some [] else (Sto.one r).bind fun x => (Sto.parseF g (r.drop x.2)).map (x.1 :: ·)) = _
    rw [if_neg hr, ho]
    rfl
  rw [e] at hf
  unfold Sto.parse
  split
  · rfl
  · exact hf

set_option maxRecDepth 100000 in
theorem RdAt.fin {w wr : World} {s : List UInt8} {v : Value} {cs : List Sto.Ch} (h : RdAt w s v wr [] 0 cs) : Sto.parse s = if cs.length = 0 then none else some cs := by
  obtain ⟨⟨f, hf, hle⟩, h0⟩ := h.fine rfl
  have e : Sto.parseF f [] = some [] := by cases f <;> rfl
  rw [e] at hf
  by_cases hc : cs = []
  · have hs := h0 hc
    rw [← hs, hc]
    rfl
  · have hl : ¬ cs.length = 0 := fun h => hc (List.eq_nil_of_length_eq_zero h)
    rw [if_neg hl]
    unfold Sto.parse
    rw [if_neg ?_, hf]
    · simp
    · intro hs
      have := h.few
      rw [hs] at this
      simp at this
      exact hc this

set_option maxRecDepth 100000 in
theorem RdAt.next {w wr w1 w2 : World} {s r r' : List UInt8} {v v' : Value} {e1 : Int} {cs : List Sto.Ch} {c : Sto.Ch} (h : RdAt w s v wr r 0 cs) (h1 : RdL w1 w.heap.size r' e1) (g1 : wr.grownBy w1 (some w.heap.size)) (o1 o2 : Obj)
    {n : Nat} {xs : List Value} (hown : w2.ownsRow w.heap.size 52 3 v' n xs) (hn : n = cs.length + 1) (hx : xs = cs.flatMap chV ++ [c].flatMap chV) (hg : ((w1.alloc o1).alloc o2).grownBy w2 v.ownBlock)
    (hfew : r'.length < r.length) (hf : e1 = 0 → ∃ f, Sto.parseF s.length s = (Sto.parseF f r').map ((cs ++ [c]) ++ ·) ∧ r'.length ≤ f) (hb : e1 ≠ 0 → r' = [] ∧ Sto.parse s = Option.none) : RdAt w s v' w2 r' e1 (cs ++ [c]) := by
  have hne : v.ownBlock ≠ some w.heap.size := own_other h.own h.rd (by decide)
  have hb1 : Below w.heap.size w w1 := h.bel.grown g1 h.bel.size (fun k hk => by injection hk with hk; omega)
  have hsz1 := hb1.size
  refine ⟨?_, ?_, ?_, ?_, fun e => ⟨hf e, fun hc => absurd hc (by simp)⟩, hb⟩
  · have h2 : RdL ((w1.alloc o1).alloc o2) w.heap.size r' e1 := Row.behindNew (Row.behindNew h1 o1) o2
    exact Row.grown h2 hg hne
  · rw [List.length_append, List.flatMap_append]
    subst hn hx
    exact hown
  · exact ((hb1.alloc hsz1 o1).alloc (by simp; omega) o2).grown hg (by simp; omega) (fun k hk => (h.own.lt k hk).1)
  · have := h.few
    rw [List.length_append, List.length_singleton]
    omega

set_option maxRecDepth 100000 in
set_option maxHeartbeats 3200000 in
theorem sto_read (s : ByteArray) (hs : s.size ≤ 1000000000) (w : World) :
    Calls Tryz.prog 34 #[.string s] w fun e w' => (∃ v, e = .returned (.tuple #[v, .int .i64 (parseE (Sto.parse s.data.toList))]) ∧ Changes w' (NewIn w w') v ((Sto.parse s.data.toList).getD [])) ∧ Below w.heap.size w w' := by
  obtain ⟨i0, hi, hz0, hz1, hz2⟩ := info_parts changeInfo
  have HO := Lib.hid (over_any s w)
  have hsl : s.data.toList.length = s.size := rfl
  have hs' : s.data.toList.length ≤ 1000000000 := by omega
  generalize s.data.toList = l at *
  clear hs hsl
  go_enter Tryz.func34, Tryz.ntmps34
  go_wp2_with fail
  refine HO.out.mono ?_
  rintro e w0 ⟨rfl, hrd, hb0⟩
  have hstart : Hid (RdAt w l (.slice none 0 0) w0 l 0 []) := Lib.hid ⟨hrd, World.ownsRow_nil _ _ _ _, hb0, by simp, fun _ => ⟨⟨l.length, by cases Sto.parseF l.length l <;> rfl, Nat.le_refl _⟩, fun _ => rfl⟩, fun h => absurd rfl h⟩
  clear hrd hb0 HO
  go_wp2_with fail
  go_loopw [5] (fun v wr => ∃ r e1 cs, RdAt w l v wr r e1 cs) (fun _ wr => leftIn wr w.heap.size)
  case atStart => exact ⟨l, 0, [], hstart.out⟩
  case round =>
    obtain ⟨r, e1, cs, hat⟩ := hrel
    have hrd := hat.rd
    have hL : (r.length : Int) ≤ 1000000000 := by have := hat.few; omega
    have HAt := Lib.hid hat
    have HLeft := Lib.hid (left_any hrd)
    have HErr := Lib.hid (err_any hrd)
    rw [mk_size] at HLeft
    have hmeas := leftIn_eq hrd
    clear hat
    by_cases he : e1 = 0
    · subst he
      by_cases hr : r = []
      · subst hr
        have hp := HAt.out.fin
        obtain ⟨A, cap, hv⟩ := own_shape HAt.out.own
        have hrw := Rws.ofOwn (F := NewIn w wr) HAt.out.own rfl (fun _ _ => rfl) (fun _ _ h1 h2 => ⟨h1, h2⟩)
        subst hv
        have hcl : (cs.length : Int) ≤ 1000000000 := by have := HAt.out.few; omega
        have HP := Lib.hid hp
        have HR := Lib.hid hrw
        clear hp hrw hrd hmeas
        by_cases hc : cs.length = 0
        · have hcc : ((cs.length : Int) == 0) = true := by rw [hc]; rfl
          have Hc := Lib.hid hc
          clear hc
          go_wp2_with (first
            | (go_at_call 59; refine HLeft.out.mono ?_; rintro e w1 ⟨rfl, rfl⟩)
            | (go_at_call 61; refine HErr.out.mono ?_; rintro e w1 ⟨rfl, rfl⟩))
          go_ret2
          rw [HP.out, if_pos Hc.out]
          exact ⟨⟨.slice none 0 0, rfl, Rws.none _ _ _⟩, HAt.out.bel⟩
        · have hcc : ((cs.length : Int) == 0) = false := by rw [beq_eq_false_iff_ne]; omega
          have Hc := Lib.hid hc
          clear hc
          go_wp2_with (first
            | (go_at_call 59; refine HLeft.out.mono ?_; rintro e w1 ⟨rfl, rfl⟩)
            | (go_at_call 61; refine HErr.out.mono ?_; rintro e w1 ⟨rfl, rfl⟩))
          go_ret2
          rw [HP.out, if_neg Hc.out]
          exact ⟨⟨_, rfl, HR.out⟩, HAt.out.bel⟩
      · have hp : (0 : Int) < (r.length : Int) := by have := List.length_pos_iff.2 hr; omega
        have HN := Lib.hid (sto_next hrd (by omega))
        have Hr := Lib.hid hr
        clear hr hrd
        rcases next_one r with ⟨n, ho, hn⟩ | ⟨ho, hn⟩
        · have hone := HAt.out.one Hr.out ho
          generalize (nextC r).1 = c at *
          rw [hn] at HN
          have Hone := Lib.hid hone
          unfold chA at HN
          clear ho hn hone
          go_wp2_with (first
            | (go_at_call 59; refine HLeft.out.mono ?_; rintro e w1 ⟨rfl, rfl⟩)
            | (go_at_call 60; refine HN.out.mono ?_; rintro e w1 ⟨rfl, h1, g1⟩; have own1 := ((HAt.out.own.kept g1 (Or.inr (own_other HAt.out.own HAt.out.rd (by decide)))).alloc (.cells #[.string (mk c.key), .string (mk c.val), .bool c.gone] 52)).alloc (.cells ([c].flatMap chV).toArray 52); have hz1' : w.heap.size ≤ w1.heap.size := (by have := HAt.out.bel.size; have := g1.size; omega); have hfew := HAt.out.few)
            | (at_builtin; refine wp_join rfl _ _ 33 rfl w.heap.size 52 i0 (.agg #[.string ⟨#[]⟩, .string ⟨#[]⟩, .bool false]) 40 Tryz.underlying33 hi hz0 hz1 hz2 rfl (by decide) rfl rfl own1 (Rws.made2 (f := chV) w1 (.cells #[.string (mk c.key), .string (mk c.val), .bool c.gone] 52) 52 [c] (fun _ _ => rfl)) (fun _ _ => rfl) (fun x _ => chV_one x) ?a1 ?a2 ?a3 ?_; (case a1 => (simp only [List.length_cons, List.length_nil]; unfold maxLen; omega)); (case a2 => (simp only [List.length_cons, List.length_nil]; omega)); (case a3 => (simp; omega)); intro v3 w3 own3 hg3; have Hmore := Lib.hid (RdAt.next HAt.out h1 g1 _ _ own3 rfl rfl hg3 Hone.out.2 (fun _ => Hone.out.1) (fun h => absurd rfl h)); clear own3 hg3 h1 g1 own1))
          go_roundw
          case rel => exact ⟨_, _, _, Hmore.out⟩
          case measure => rw [hmeas, leftIn_eq Hmore.out.rd]; exact Hone.out.2
        · have HNone := Lib.hid (HAt.out.nothing Hr.out ho)
          clear ho
          by_cases hok : (nextC r).2.1 = true
          · obtain ⟨h1, h2⟩ := hn.resolve_left (by rw [hok]; decide)
            rw [hok, h1] at HN
            generalize (nextC r).1 = c at *
            generalize (nextC r).2.2.2 = e2 at *
            have He := Lib.hid h2
            unfold chA at HN
            clear hok hn h1 h2
            go_wp2_with (first
              | (go_at_call 59; refine HLeft.out.mono ?_; rintro e w1 ⟨rfl, rfl⟩)
              | (go_at_call 60; refine HN.out.mono ?_; rintro e w1 ⟨rfl, h1, g1⟩; have own1 := ((HAt.out.own.kept g1 (Or.inr (own_other HAt.out.own HAt.out.rd (by decide)))).alloc (.cells #[.string (mk c.key), .string (mk c.val), .bool c.gone] 52)).alloc (.cells ([c].flatMap chV).toArray 52); have hz1' : w.heap.size ≤ w1.heap.size := (by have := HAt.out.bel.size; have := g1.size; omega); have hfew := HAt.out.few)
              | (at_builtin; refine wp_join rfl _ _ 33 rfl w.heap.size 52 i0 (.agg #[.string ⟨#[]⟩, .string ⟨#[]⟩, .bool false]) 40 Tryz.underlying33 hi hz0 hz1 hz2 rfl (by decide) rfl rfl own1 (Rws.made2 (f := chV) w1 (.cells #[.string (mk c.key), .string (mk c.val), .bool c.gone] 52) 52 [c] (fun _ _ => rfl)) (fun _ _ => rfl) (fun x _ => chV_one x) ?a1 ?a2 ?a3 ?_; (case a1 => (simp only [List.length_cons, List.length_nil]; unfold maxLen; omega)); (case a2 => (simp only [List.length_cons, List.length_nil]; omega)); (case a3 => (simp; omega)); intro v3 w3 own3 hg3; have Hmore := Lib.hid (RdAt.next HAt.out h1 g1 _ _ own3 rfl rfl hg3 (by simpa using List.length_pos_iff.2 Hr.out) (fun h => absurd h He.out) (fun _ => ⟨rfl, HNone.out⟩)); clear own3 hg3 h1 g1 own1))
            go_roundw
            case rel => exact ⟨_, _, _, Hmore.out⟩
            case measure => rw [hmeas, leftIn_eq Hmore.out.rd]; exact List.length_pos_iff.2 Hr.out
          · have hok' : (nextC r).2.1 = false := by simpa using hok
            rw [hok'] at HN
            generalize (nextC r).1 = c at *
            unfold chA at HN
            clear hok hok' hn
            go_wp2_with (first
              | (go_at_call 59; refine HLeft.out.mono ?_; rintro e w1 ⟨rfl, rfl⟩)
              | (go_at_call 60; refine HN.out.mono ?_; rintro e w1 ⟨rfl, h1, g1⟩; have hb1 := Lib.hid (HAt.out.bel.grown g1 HAt.out.bel.size (fun k hk => by injection hk with hk; omega)); clear h1 g1))
            go_ret2
            rw [HNone.out]
            exact ⟨⟨.slice none 0 0, rfl, Rws.none _ _ _⟩, hb1.out.alloc hb1.out.size _⟩
    · have hbad := HAt.out.bad he
      obtain ⟨rfl, hnone⟩ := hbad
      have HNone := Lib.hid hnone
      have hee : (e1 != 0) = true := by simpa using he
      clear he hnone hrd hmeas
      go_wp2_with (first
        | (go_at_call 59; refine HLeft.out.mono ?_; rintro e w1 ⟨rfl, rfl⟩)
        | (go_at_call 61; refine HErr.out.mono ?_; rintro e w1 ⟨rfl, rfl⟩))
      go_ret2
      rw [HNone.out]
      exact ⟨⟨.slice none 0 0, rfl, Rws.none _ _ _⟩, HAt.out.bel⟩
end Go.Proofs.YtbfjageaheijbaaGreat
/- The document's own answer: Second. -/
namespace Go.Proofs.YtbfjageaheijbaaGreat
open Go.RowKit

def SecondIs (t : List UInt8) (k : Nat) (x : Int) (w : World) (e : Ending) (w' : World) : Prop := e = .returned (.tuple #[.string ⟨t.toArray⟩, .int .i64 k, .int .i64 x]) ∧ w = w'

set_option maxRecDepth 100000 in
theorem ref_second (s : ByteArray) (w : World) (hs : s.size ≤ 281474976710656) :
    Calls Tryz.prog 28 #[.string s] w (SecondIs (Leb.second s.data.toList).1 (Leb.second s.data.toList).2.1 (Leb.second s.data.toList).2.2 w) := by
  have hfirst : Hid (∀ W, Calls Tryz.prog 29 #[.string s] W (TripleIs (Leb.first s.data.toList).1 (Leb.first s.data.toList).2.1 (Leb.first s.data.toList).2.2 W)) := fun W => ref_first s W hs
  have hff := Leb.first_fits s.data.toList
  rw [← Lib.size_eq] at hff
  obtain ⟨h1, h2, _, _⟩ := hff
  by_cases he : (Leb.first s.data.toList).2.2 = 0
  · by_cases hl : s.size - (Leb.first s.data.toList).2.1 < (Leb.first s.data.toList).1
    · have hfin : Hid (Leb.second s.data.toList = ([], 0, 5)) := by
        unfold Leb.second
        rw [if_pos he, if_pos (by rw [← Lib.size_eq]; exact hl)]; rfl
      have hb : decide ((s.size : Int) - ((Leb.first s.data.toList).2.1 : Int) < ((Leb.first s.data.toList).1 : Int)) = true := by simp; omega
      generalize (Leb.first s.data.toList).1 = n at *
      generalize (Leb.first s.data.toList).2.1 = k at *
      have hk : (k : Int) ≤ (s.size : Int) := by omega
      have Hf2 : Hid (∀ W, Calls Tryz.prog 29 #[.string s] W (TripleIs n k 0 W)) := by rw [← he]; exact hfirst
      clear hfirst he hl h1 h2
      go_enter Tryz.func28, Tryz.ntmps28
      go_wp2_with (go_at_call 29; refine (Hf2.out _).mono ?_; rintro e w' ⟨rfl, rfl⟩)
      go_ret3
      exact ⟨by rw [hfin.out]; rfl, rfl⟩
    · have hfin : Hid (Leb.second s.data.toList = ((s.data.toList.drop (Leb.first s.data.toList).2.1).take (Leb.first s.data.toList).1, (Leb.first s.data.toList).2.1 + (Leb.first s.data.toList).1, 0)) := by
        unfold Leb.second
        rw [if_pos he, if_neg (by rw [← Lib.size_eq]; exact hl)]; rfl
      have hb : decide ((s.size : Int) - ((Leb.first s.data.toList).2.1 : Int) < ((Leb.first s.data.toList).1 : Int)) = false := by simp; omega
      generalize (Leb.first s.data.toList).1 = n at *
      generalize (Leb.first s.data.toList).2.1 = k at *
      have hk : (k : Int) ≤ (s.size : Int) := by omega
      have hkn : k + n ≤ s.size := by omega
      have Hf2 : Hid (∀ W, Calls Tryz.prog 29 #[.string s] W (TripleIs n k 0 W)) := by rw [← he]; exact hfirst
      have hcut : Hid (s.extract k (k + n) = ⟨((s.data.toList.drop k).take n).toArray⟩) := bytes_ext (by rw [Lib.extract_data, Nat.add_sub_cancel_left])
      clear hfirst he hl h1 h2
      go_enter Tryz.func28, Tryz.ntmps28
      go_wp2_with (go_at_call 29; refine (Hf2.out _).mono ?_; rintro e w' ⟨rfl, rfl⟩)
      go_ret3
      exact ⟨by rw [hfin.out, ← hcut.out]; rfl, rfl⟩
  · have hfin : Hid (Leb.second s.data.toList = ([], 0, (Leb.first s.data.toList).2.2)) := by
      unfold Leb.second
      rw [if_neg he]; rfl
    have hb : ((Leb.first s.data.toList).2.2 != 0) = true := by simp [he]
    generalize (Leb.first s.data.toList).2.2 = x at *
    clear he h1 h2
    go_enter Tryz.func28, Tryz.ntmps28
    go_wp2_with (go_at_call 29; refine (hfirst.out _).mono ?_; rintro e w' ⟨rfl, rfl⟩)
    go_ret3
    exact ⟨by rw [hfin.out]; rfl, rfl⟩

end Go.Proofs.YtbfjageaheijbaaGreat
/- The document's own answers of layer 4: First. -/
namespace Go.Proofs.YtbfjageaheijbaaGreat
open Go.RowKit

def FirstIs (t : List UInt8) (n : Nat) (x : Int) (w : World) (e : Ending) (w' : World) : Prop := e = .returned (.tuple #[.string (mk t), .int .i64 n, .int .i64 x]) ∧ Below w.heap.size w w'

set_option maxRecDepth 100000 in
theorem mk_inj {a b : List UInt8} (h : mk a = mk b) : a = b := by rw [← mk_data a, h, mk_data]

set_option maxRecDepth 100000 in
/-- What the text at the front says, where there is none. -/
theorem second_bad (s : List UInt8) (h : (Leb.second s).2.2 ≠ 0) : (Leb.second s).1 = [] ∧ (Leb.second s).2.1 = 0 := by
  unfold Leb.second at h ⊢
  split
  · split
    · exact ⟨rfl, rfl⟩
    · rename_i h1 h2
      rw [if_pos h1, if_neg h2] at h
      exact absurd rfl h
  · exact ⟨rfl, rfl⟩

end Go.Proofs.YtbfjageaheijbaaGreat
/- The document's own answers of layer 4: Read. -/
namespace Go.Proofs.YtbfjageaheijbaaGreat
open Go.RowKit

def sizeIn : Value → Nat | .string b => b.size | _ => 0

/-- What has been read, and what is left. -/
def Rest (S : List UInt8) (d : List (List UInt8)) (r : List UInt8) : Prop := d.length + r.length ≤ S.length ∧ Frm.read S = if (Frm.read r).2 = 0 then (d ++ (Frm.read r).1, 0) else ([], (Frm.read r).2)

set_option maxRecDepth 100000 in
theorem rest_start (S : List UInt8) : Rest S [] S := ⟨by simp, by
  by_cases h : (Frm.read S).2 = 0
  · rw [if_pos h, List.nil_append, ← h]
  · rw [if_neg h, ← Frm.read_none S h]⟩

set_option maxRecDepth 100000 in
theorem rest_end {S : List UInt8} {d : List (List UInt8)} (h : Rest S d []) : Frm.read S = (d, 0) := by
  have := h.2
  rw [show Frm.read [] = ([], 0) from rfl] at this
  simpa using this

set_option maxRecDepth 100000 in
theorem rest_bad {S r : List UInt8} {d : List (List UInt8)} (h : Rest S d r) (hr : r ≠ []) (hx : (Frm.first r).2.2 ≠ 0) : Frm.read S = ([], (Frm.first r).2.2) := by
  have e := Frm.read_step r hr
  rw [if_neg hx] at e
  have := h.2
  rw [e] at this
  rw [this, if_neg hx]

set_option maxRecDepth 100000 in
theorem rest_step {S r : List UInt8} {d : List (List UInt8)} (h : Rest S d r) (hr : r ≠ []) (hx : (Frm.first r).2.2 = 0) : Rest S (d ++ [(Frm.first r).1]) (r.drop (Frm.first r).2.1) := by
  have e := Frm.read_step r hr
  rw [if_pos hx] at e
  have hn := (Frm.first_only r (Frm.first r).1 (Frm.first r).2.1 (by rw [← hx])).2.2.2
  have hr0 : 0 < r.length := List.length_pos_iff.2 hr
  refine ⟨by have := h.1; rw [List.length_append, List.length_drop]; simp; omega, ?_⟩
  rw [h.2, e]
  by_cases hz : (Frm.read (r.drop (Frm.first r).2.1)).2 = 0
  · rw [if_pos hz, if_pos rfl, if_pos hz]; simp
  · rw [if_neg hz, if_neg hz, if_neg hz]

end Go.Proofs.YtbfjageaheijbaaGreat
/- What the package frame is to answer (FrameOk); two lists that are one; lists that are not far too long; a list that came in. -/
namespace Go.Proofs.YtbfjageaheijbaaGreat
open Go.ChangeShapes Go.WideShapes Go.ChangeAt Go.RowKit Go.Deep

/-- What the package is to answer. -/
structure FrameOk : Prop where
  lay : ∀ {w : World} {F : Nat → Prop} {v : Value} {l : List (List UInt8)}, Cells w F v (texts l) → l.length ≤ 100000 → (∀ t ∈ l, t.length ≤ 16777216) →
    Calls Tryz.prog 81 #[v] w fun e w' => e = .returned (.tuple (if (Frm.all l).length ≤ 65536 then #[.string (mk (Frm.all l)), .int .i64 0] else #[.string (mk []), .int .i64 4])) ∧ Below w.heap.size w w'
  size : ∀ {w : World} {F : Nat → Prop} {v : Value} {l : List (List UInt8)}, Cells w F v (texts l) → l.length ≤ 100000 → (∀ t ∈ l, t.length ≤ 16777216) →
    Calls Tryz.prog 91 #[v] w fun e w' => e = .returned (.int .i64 (if (Frm.all l).length ≤ 65536 then ((Frm.all l).length : Int) else 65537)) ∧ Below w.heap.size w w'
  first : ∀ (s : ByteArray) (w : World), s.size ≤ 200000 → Calls Tryz.prog 79 #[.string s] w (FirstIs (Frm.first s.data.toList).1 (Frm.first s.data.toList).2.1 (Frm.first s.data.toList).2.2 w)
  read : ∀ (s : ByteArray) (w : World), s.size ≤ 200000 →
    Calls Tryz.prog 52 #[.string s] w fun e w' => ∃ v, e = .returned (.tuple #[v, .int .i64 (Frm.read s.data.toList).2]) ∧ Cells w' (NewIn w w') v (texts (Frm.read s.data.toList).1) ∧ Below w.heap.size w w'

/-- Records that are not far too long. -/
def Light (l : List (List UInt8)) : Prop := (∀ t ∈ l, t.length ≤ 300) ∧ l.length ≤ 40
instance (l : List (List UInt8)) : Decidable (Light l) := inferInstanceAs (Decidable (_ ∧ _))

end Go.Proofs.YtbfjageaheijbaaGreat
/- The package frame as it landed: how many bytes a record's length stands in, and Size. -/
namespace Go.Proofs.YtbfjageaheijbaaGreat
open Go.ChangeShapes Go.WideShapes Go.ChangeAt Go.RowKit Go.Deep

set_option maxRecDepth 100000 in
/-- One number, laid by leb. -/
theorem lay_number (n : Nat) (hn : n ≤ 65536) (w : World) :
    Calls Tryz.prog 97 #[.slice (some ⟨w.heap.size, 0, none⟩) 1 1] (w.alloc (.cells #[.int .i64 (n : Int), .string ⟨#[]⟩, .bool false] 144)) fun e w' =>
      e = .returned (.tuple #[.string (mk (Leb.enc n)), .int .i64 0]) ∧ Below w.heap.size w w' := by
  have hr := Row.made w 144 #[.int .i64 (n : Int), .string ⟨#[]⟩, .bool false]
  have h : FieldsAt (w.alloc (.cells #[.int .i64 (n : Int), .string ⟨#[]⟩, .bool false] 144)) w.heap.size 0 [⟨n, ⟨#[]⟩, false⟩] := by
    intro i f hf
    rw [hr.at, hr.at, hr.at]
    match i, hf with
    | 0, hf => simp at hf; subst hf; exact ⟨rfl, rfl, rfl⟩
    | (j + 1), hf => simp at hf
  have hfit : Fits [⟨n, ⟨#[]⟩, false⟩] := by
    intro i f hf
    match i, hf with
    | 0, hf => simp at hf; subst hf; exact ⟨by simp [Fl.head, numOf]; omega, by simp [Fl.body, strOf]; decide⟩
    | (j + 1), hf => simp at hf
  have hl : layOf [⟨n, ⟨#[]⟩, false⟩] = (Leb.enc n, 0) := by
    have hb : allBytes [⟨(n : Int), ⟨#[]⟩, false⟩] = Leb.enc n := by simp [allBytes, Fl.bytes, Fl.head, Fl.body, numOf, strOf]
    unfold layOf
    rw [hb, if_neg (by simp [Fl.head, numOf]), if_neg (by have := (Leb.enc_len n).2; omega)]
  refine (lay_any (cap := 1) h (by simp) (by simp) hfit).mono ?_
  rintro e w' ⟨rfl, hb⟩
  rw [hl]
  exact ⟨rfl, ((Below.refl _ _).alloc (Nat.le_refl _) _).trans (hb.mono (by simp))⟩

set_option maxRecDepth 100000 in
theorem length_bytes (r : ByteArray) (w : World) (h : r.size ≤ 65536) :
    Calls Tryz.prog 114 #[.string r] w fun e w' => e = .returned (.int .i64 ((Leb.enc r.size).length : Int)) ∧ Below w.heap.size w w' := by
  have hlay := fun W => lay_number r.size h W
  have hz : (mk (Leb.enc r.size)).size = (Leb.enc r.size).length := mk_len _
  have Hlay := Lib.hid hlay
  clear hlay h
  generalize hm : mk (Leb.enc r.size) = y at *
  rw [← hz]
  clear hz hm
  go_enter Tryz.func114, Tryz.ntmps114
  go_wp2_with (first
    | (go_at_call 96; refine (field_n _ _).mono ?_; rintro e w1 ⟨rfl, hb1⟩)
    | (go_at_call 97; refine (Hlay.out _).mono ?_; rintro e w3 ⟨rfl, hb3⟩))
  go_ret
  exact ⟨rfl, hb1.trans (hb3.mono hb1.size)⟩

namespace Frm
set_option maxRecDepth 100000 in
theorem all_split (l : List (List UInt8)) (k : Nat) : all l = all (l.take k) ++ all (l.drop k) := by
  unfold all
  rw [← List.flatMap_append, List.take_append_drop]
set_option maxRecDepth 100000 in
theorem all_front (l : List (List UInt8)) (k : Nat) : (all (l.take k)).length ≤ (all l).length := by
  rw [all_split l k, List.length_append]; omega
set_option maxRecDepth 100000 in
theorem all_take (l : List (List UInt8)) (k : Nat) (t : List UInt8) (h : l[k]? = some t) : all (l.take (k + 1)) = all (l.take k) ++ one t := by
  obtain ⟨hl, he⟩ := List.getElem?_eq_some_iff.1 h
  rw [List.take_succ_eq_append_getElem hl, he, all_snoc]
end Frm

set_option maxRecDepth 100000 in
set_option maxHeartbeats 1600000 in
theorem size_any {w : World} {F : Nat → Prop} {v : Value} {l : List (List UInt8)} (h : Cells w F v (texts l)) (hl : l.length ≤ 100000) (ht : ∀ t ∈ l, t.length ≤ 16777216) :
    Calls Tryz.prog 91 #[v] w fun e w' => e = .returned (.int .i64 (if (Frm.all l).length ≤ 65536 then ((Frm.all l).length : Int) else 65537)) ∧ Below w.heap.size w w' := by
  obtain ⟨A, cap, rfl, hcap, hat⟩ := h
  rw [texts_len] at hcap hat ⊢
  have Hat := Lib.hid hat
  have Ht := Lib.hid ht
  have hl' : (l.length : Int) ≤ 100000 := by omega
  obtain ⟨R, hR⟩ : ∃ R : Int, R = if (Frm.all l).length ≤ 65536 then ((Frm.all l).length : Int) else 65537 := ⟨_, rfl⟩
  rw [← hR]
  have HR := Lib.hid hR
  clear hat hl ht hR
  go_enter Tryz.func91, Tryz.ntmps91
  go_wp2_with fail
  go_loopw [3, 8] (fun n i wr => ∃ k : Nat, k ≤ l.length ∧ i = .int .i64 (k : Int) ∧ n = .int .i64 ((Frm.all (l.take k)).length : Int) ∧ (Frm.all (l.take k)).length ≤ 65560 ∧ Below w.heap.size w wr) (fun _ i _ => l.length - (intOf i).toNat)
  case atStart => exact ⟨0, Nat.zero_le _, rfl, rfl, by simp [Frm.all], Below.refl _ _⟩
  case round =>
    obtain ⟨k, hk, rfl, rfl, hle, hbel⟩ := hrel
    have Hbel := Lib.hid hbel
    by_cases hlt : k < l.length
    · obtain ⟨b, o, rfl, -, hb, hc⟩ := Hat.out (by omega)
      obtain ⟨t, htk⟩ : ∃ t, l[k]? = some t := ⟨_, List.getElem?_eq_getElem hlt⟩
      have hce : wr.cell? ⟨b, o + k, none⟩ = some (.string (mk t)) := (hbel.cell (p := ⟨b, o + k, none⟩) hb).trans (hc k _ (texts_at htk))
      have hk0 : (0 : Int) ≤ (k : Int) := by omega
      have hk1 : (k : Int) < (l.length : Int) := by omega
      have hsz : (mk t).size = t.length := mk_len t
      have ht24 : t.length ≤ 16777216 := Ht.out t (List.mem_of_getElem? htk)
      have hst := Frm.all_take l k t htk
      have hst2 : (Frm.all (l.take (k + 1))).length = (Frm.all (l.take k)).length + ((Leb.enc t.length).length + t.length + 4) := by rw [hst, List.length_append, Frm.one_len]
      have hall := Frm.all_front l (k + 1)
      have hen := (Leb.enc_len t.length).2
      obtain ⟨m, hm⟩ : ∃ m, m = (Frm.all (l.take k)).length := ⟨_, rfl⟩
      rw [← hm] at hle hst2 ⊢
      by_cases hbig : m + t.length ≤ 65536
      · have hlb := fun W => length_bytes (mk t) W (by rw [hsz]; omega)
        rw [hsz] at hlb
        have Hlb := Lib.hid hlb
        have hdec : decide ((65536 : Int) - (m : Int) < ((mk t).size : Int)) = false := by rw [hsz]; simp; omega
        have hn0 : (m : Int) ≤ 65560 := by omega
        have hsum : Hid ((m : Int) + (((Leb.enc t.length).length : Int) + ((mk t).size : Int) + 4) = ((Frm.all (l.take (k + 1))).length : Int))   := Lib.hid (by rw [hsz]; omega)
        have hle2 : Hid ((Frm.all (l.take (k + 1))).length ≤ 65560) := Lib.hid (by omega)
        have he9 : (((Leb.enc t.length).length : Nat) : Int) ≤ 9 := by omega
        have he0 : (0 : Int) ≤ (((Leb.enc t.length).length : Nat) : Int) := by omega
        have ht0 : ((mk t).size : Int) ≤ 65536 := by rw [hsz]; omega
        clear hlb hst hst2 hall hm hc htk hsz hbel hen hbig ht24
        generalize (Leb.enc t.length).length = q at *
        generalize hy : mk t = y at *
        go_wp2_with (go_at_call 114; refine (Hlb.out _).mono ?_; rintro e w1 ⟨rfl, hb1⟩)
        go_roundw
        case rel => exact ⟨k + 1, by omega, by go_num, by rw [← hsum.out], hle2.out, Hbel.out.trans (hb1.mono Hbel.out.size)⟩
        case measure => simp [intOf]; omega
      · have hdec : decide ((65536 : Int) - (m : Int) < ((mk t).size : Int)) = true := by rw [hsz]; simp; omega
        have hn0 : (m : Int) ≤ 65560 := by omega
        have hfin : Hid (R = 65537) := Lib.hid (HR.out.trans (if_neg (by omega)))
        clear hst hst2 hall hm hc htk hbel hen hbig ht24 hsz
        generalize hy : mk t = y at *
        go_wp2_with fail
        go_ret
        exact ⟨by rw [hfin.out]; rfl, Hbel.out⟩
    · obtain rfl : k = l.length := by omega
      rw [List.take_length] at hle ⊢
      have hfin : Hid (R = min ((Frm.all l).length : Int) 65537) := Lib.hid (by
        rw [HR.out]
        split <;> omega)
      clear HR
      have hn0 : ((Frm.all l).length : Int) ≤ 65560 := by omega
      generalize (Frm.all l).length = m at *
      clear hle hbel
      by_cases h5 : (m : Int) ≤ 65537
      · have hmin : min (m : Int) 65537 = m := by omega
        go_wp2_with fail
        go_ret
        exact ⟨by rw [hfin.out, hmin]; rfl, Hbel.out⟩
      · have hmin : min (m : Int) 65537 = 65537 := by omega
        go_wp2_with fail
        go_ret
        exact ⟨by rw [hfin.out, hmin]; rfl, Hbel.out⟩
end Go.Proofs.YtbfjageaheijbaaGreat
