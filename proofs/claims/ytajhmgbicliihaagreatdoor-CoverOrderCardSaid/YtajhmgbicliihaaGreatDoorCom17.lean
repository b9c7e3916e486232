/- The landed path: Covers, Meet, Parent; a text parted at its first / (strings.Cut). -/
import Derived.Test.YtajhmgbicliihaaGreatDoorCom16
import Derived.Test.YtajhmgbicliihaaGreatDoorCom6
import Derived.Test.YtajhmgbicliihaaGreatDoorCom15
import Derived.Test.YtajhmgbicliihaaGreatDoorCom3
import Derived.Test.YtajhmgbicliihaaGreatDoorCom10
import Derived.Test.YtajhmgbicliihaaGreatDoorCom11
import Derived.Test.YtajhmgbicliihaaGreatDoorCom7
import Derived.Test.YtajhmgbicliihaaGreatDoorCom9
import Derived.BigQuiet
set_option linter.unusedSimpArgs false
set_option linter.unusedVariables false
namespace Go.Proofs.YtajhmgbicliihaaGreatDoor
open Go.RowKit

set_option maxRecDepth 100000 in
theorem extract_mk (l : List UInt8) (i j : Nat) : (mk l).extract i j = mk ((l.drop i).take (j - i)) := bytes_ext (by rw [Lib.extract_data, mk_data, mk_data])

def slashT : ByteArray := ⟨#[47]⟩

set_option maxRecDepth 100000 in
theorem hasp (s p : List UInt8) : Lib.hasPrefix s p = decide (p.length ≤ s.length ∧ s.take p.length = p) := by
  unfold Lib.hasPrefix
  rw [Bool.eq_iff_iff, List.isPrefixOf_iff_prefix, decide_eq_true_eq, List.prefix_iff_eq_take]
  constructor
  · intro h; exact ⟨by have := congrArg List.length h; rw [List.length_take] at this; omega, h.symm⟩
  · intro h; exact h.2.symm

set_option maxRecDepth 100000 in
theorem hasp_slash (s : List UInt8) : Lib.hasPrefix s [47] = decide (s[0]? = some 47) := by
  cases s with
  | nil => rfl
  | cons c s =>
    show (47 == c && true) = _
    rw [Bool.and_true, Bool.eq_iff_iff, beq_iff_eq, decide_eq_true_eq]
    simp [eq_comm]

set_option maxRecDepth 100000 in
set_option maxHeartbeats 1600000 in
theorem pth_parent (a : List UInt8) (w : World) (ha : a.length ≤ 100000) :
    Calls Tryz.prog 35 #[.string (mk a)] w fun e w' => e = .returned (.string (mk (Pth.parent a))) ∧ Below w.heap.size w w' := by
  have HL := fun W => Tryz.strings_LastIndex_one (mk a) ⟨#[47]⟩ rfl (by rw [mk_len]; omega) W
  have ls : (mk a).size = a.length := mk_len a
  rcases Pth.last_cases (mk a) with ⟨h1, h2⟩ | ⟨i, hi, h1, h2⟩
  · rw [mk_data] at h2
    have HL : Hid (∀ W, Calls Tryz.prog 50 #[.string (mk a), .string ⟨#[47]⟩] W fun e w' => e = .returned (.int .i64 (-1)) ∧ w' = W) := Lib.hid (fun W => (HL W).mono (fun e w' hh => ⟨by rw [hh.1]; exact congrArg (fun n => Ending.returned (.int .i64 n)) h1, hh.2⟩))
    rw [h2]
    have x1 : Hid ((mk a).extract 0 0 = mk []) := Lib.hid (by rw [extract_mk]; simp)
    have g4 : ((mk a).size : Int) ≤ 100000 := by omega
    clear h1 h2 ls
    generalize mk a = x at *
    go_enter Tryz.func35, Tryz.ntmps35
    go_wp2_with (go_at_call 50; refine (HL.out _).mono ?_; rintro e w1 ⟨rfl, rfl⟩)
    go_ret
    exact ⟨by show Ending.returned (.string (x.extract 0 (max (-1) 0 : Int).toNat)) = _; rw [show (max (-1) 0 : Int).toNat = 0 from rfl, x1.out], Below.refl _ _⟩
  · rw [mk_data] at h2
    have HL : Hid (∀ W, Calls Tryz.prog 50 #[.string (mk a), .string ⟨#[47]⟩] W fun e w' => e = .returned (.int .i64 (i : Int)) ∧ w' = W) := Lib.hid (fun W => (HL W).mono (fun e w' hh => ⟨by rw [hh.1]; exact congrArg (fun n => Ending.returned (.int .i64 n)) h1, hh.2⟩))
    rw [h2]
    have x1 : Hid ((mk a).extract 0 i = mk (a.take i)) := Lib.hid (by rw [extract_mk]; simp)
    have g1 : (0 : Int) ≤ (i : Int) := by omega
    have g2 : (i : Int) ≤ ((mk a).size : Int) := by omega
    have g4 : ((mk a).size : Int) ≤ 100000 := by omega
    clear h1 h2 ls hi
    generalize mk a = x at *
    go_enter Tryz.func35, Tryz.ntmps35
    go_wp2_with (go_at_call 50; refine (HL.out _).mono ?_; rintro e w1 ⟨rfl, rfl⟩)
    go_ret
    exact ⟨by rw [← x1.out]; rfl, Below.refl _ _⟩
end Go.Proofs.YtajhmgbicliihaaGreatDoor
/- The landed path: Names, Check. -/
set_option linter.unusedSimpArgs false
set_option linter.unusedVariables false
namespace Go.Proofs.YtajhmgbicliihaaGreatDoor
open Go.RowKit

set_option maxRecDepth 100000 in
theorem Pth.own_at {w w' : World} {base t size n : Nat} {v : Value} {xs : List Value} (h : w.ownsRow base t size v n xs) (k : ∀ i, v.ownBlock = some i → w'.heap[i]? = w.heap[i]?) : w'.ownsRow base t size v n xs := by
  refine ⟨h.1, ?_⟩
  rcases h.2 with hn | ⟨g, cap, cur, rfl, hb, hgg, rest⟩
  · exact .inl hn
  · exact .inr ⟨g, cap, cur, rfl, hb, (k g rfl).trans hgg, rest⟩

/-- While names are told: those that are done (d), those that the function was told (e). -/
structure NmAt (w : World) (d e : List (List UInt8)) (v : Value) (wr : World) : Prop where
  own : wr.ownsRow (w.heap.size + 2) 9 1 v d.length (texts d)
  r1 : Row wr w.heap.size 3 #[cnt e]
  r2 : Row wr (w.heap.size + 1) 3 #[room e]
  bel : Below w.heap.size w wr
  size : w.heap.size + 2 ≤ wr.heap.size

set_option maxRecDepth 100000 in
theorem NmAt.start (w : World) : NmAt w [] [] (.slice none 0 0) ((w.alloc (.cells #[.int .i64 6] 3)).alloc (.cells #[.int .i64 41] 3)) := by
  refine ⟨World.ownsRow_nil _ _ _ _, (Row.made w _ _).behindNew _, ?_, ((Below.refl _ w).alloc (Nat.le_refl _) _).alloc (by simp) _, by simp⟩
  have := Row.made (w.alloc (.cells #[.int .i64 6] 3)) 3 #[.int .i64 41]
  rw [show (w.alloc (.cells #[.int .i64 6] 3)).heap.size = w.heap.size + 1 from by simp] at this
  exact this

set_option maxRecDepth 100000 in
theorem NmAt.below {w w1 w2 : World} {d e : List (List UInt8)} {v : Value} (h : NmAt w d e v w1) (k : Below w1.heap.size w1 w2) : NmAt w d e v w2 :=
  ⟨Pth.own_at h.own (fun i hi => k.block i (h.own.lt _ hi).2), h.r1.below k h.r1.inHeap, h.r2.below k h.r2.inHeap, h.bel.trans (k.mono h.bel.size), Nat.le_trans h.size k.size⟩

set_option maxRecDepth 100000 in
theorem NmAt.told {w w1 w2 : World} {d e e' : List (List UInt8)} {v : Value} (h : NmAt w d e v w1) (r1 : Row w2 w.heap.size 3 #[cnt e']) (r2 : Row w2 (w.heap.size + 1) 3 #[room e']) (k : Kept (fun i => i = w.heap.size ∨ i = w.heap.size + 1) w1 w2) : NmAt w d e' v w2 :=
  ⟨Pth.own_at h.own (fun i hi => k.block i (h.own.lt _ hi).2 (by have := (h.own.lt _ hi).1; omega)), r1, r2, h.bel.trans (k.below h.bel.size (fun i hi => by omega)), Nat.le_trans h.size k.size⟩

set_option maxRecDepth 100000 in
theorem nm_more {w wr w2 : World} {d e : List (List UInt8)} {v v' : Value} {o : Obj} {x : List UInt8} (h : NmAt w d e v wr) (hown : w2.ownsRow (w.heap.size + 2) 9 1 v' (d.length + 1) (texts d ++ [.string (mk x)])) (hg : (wr.alloc o).grownBy w2 v.ownBlock) : NmAt w (d ++ [x]) e v' w2 := by
  have hne : ∀ k, v.ownBlock = some k → w.heap.size + 2 ≤ k := fun k hk => (h.own.lt k hk).1
  refine ⟨?_, ?_, ?_, ?_, ?_⟩
  · rw [List.length_append, List.length_singleton]
    simpa [texts] using hown
  · exact (h.r1.behindNew o).grown hg (fun e => by have := hne _ e; omega)
  · exact (h.r2.behindNew o).grown hg (fun e => by have := hne _ e; omega)
  · exact (h.bel.alloc h.bel.size o).grown hg (by have := h.bel.size; simp; omega) (fun k hk => by have := hne k hk; omega)
  · have := hg.size; have := h.size; simp at *; omega

set_option maxRecDepth 100000 in
theorem NmAt.cells {w w' : World} {d e : List (List UInt8)} {v : Value} (h : NmAt w d e v w') : Cells w' (NewIn w w') v (texts d) := Cells.ofOwn h.own (fun _ _ h1 h2 => ⟨by omega, h2⟩)

def moreIn (o m : Value) : Nat := match m, o with | .bool true, .string x => x.size + 1 | _, _ => 0

end Go.Proofs.YtajhmgbicliihaaGreatDoor
/- The package path as it landed answers as its contracts say. -/
set_option linter.unusedSimpArgs false
set_option linter.unusedVariables false
namespace Go.Proofs.YtajhmgbicliihaaGreatDoor
open Go.RowKit

set_option maxRecDepth 100000 in
theorem path_ok : PathOk where
  parent := pth_parent
end Go.Proofs.YtajhmgbicliihaaGreatDoor
/- The landed filter: what is known tells the sizes at any prefix (the closure of sizer). -/
set_option linter.unusedSimpArgs false
set_option linter.unusedVariables false
namespace Go.Proofs.YtajhmgbicliihaaGreatDoor
open Go.RowKit

def Tm.val (m : Tm.Fn) (q : List UInt8) : Value := match m q with | some v => v | none => .slice none 0 0
def strLen : Value → Nat
  | .string s => s.size
  | _ => 0

set_option maxRecDepth 100000 in
set_option maxHeartbeats 3200000 in
theorem tell_any {w : World} {F : Nat → Prop} {bm B n : Nat} {m : Tm.Fn} {L : List UInt8 → List Sz.Rg} (hm : TmAt w bm m n) (hB : w.cell? ⟨B, 0, none⟩ = some (.map (some bm))) (hBl : B < w.heap.size)
    (hv : ∀ q v, m q = some v → Rgs w F v (L q)) (hn : ∀ q, m q = none → (q = [] → L [] = []) ∧ (q ≠ [] → L q = L (Pth.parent q))) (p : List UInt8) (hp : p.length ≤ 100000) :
    Calls Tryz.prog 45 #[.string (mk p), .pointer (some ⟨B, 0, none⟩)] w fun e w' => ∃ v, e = .returned v ∧ Rgs w' F v (L p) ∧ Below w.heap.size w w' := by
  have LK : Hid (∀ (W : World), Below w.heap.size w W → ∀ q : List UInt8, q.length ≤ 100000 → (Instr.lookup 65 (.map (some bm)) (.string (mk q)) true).run Tryz.prog W = .ok (.tuple #[Tm.val m q, .bool (m q).isSome]) W) := Lib.hid (fun W hW q hq => (hm.below hW).look (by omega))
  have CB : Hid (∀ (W : World), Below w.heap.size w W → W.cell? ⟨B, 0, none⟩ = some (.map (some bm))) := Lib.hid (fun W hW => (hW.cell (p := ⟨B, 0, none⟩) hBl).trans hB)
  have HV := Lib.hid hv
  have HN := Lib.hid hn
  have PA := Lib.hid (fun (q : List UInt8) (hq : q.length ≤ 100000) (W : World) => path_ok.parent q W hq)
  have hlook := LK.out w (Below.refl _ _) p hp
  clear hm hv hn hBl
  obtain ⟨ps, hps⟩ : ∃ ps, ps = mk p := ⟨_, rfl⟩
  rw [← hps] at hlook ⊢
  have Hps := Lib.hid hps
  clear hps
  generalize hx : Tm.val m p = x at hlook
  generalize hy : (m p).isSome = y at hlook
  have HX := Lib.hid hx
  have HY := Lib.hid hy
  clear hx hy
  go_enter Tryz.func45, Tryz.ntmps45
  go_wp2_with fail
  go_loopw [0, 4, 5, 20] (fun pv l has _ wr => ∃ q : List UInt8, q.length ≤ 100000 ∧ pv = .string (mk q) ∧ l = Tm.val m q ∧ has = .bool (m q).isSome ∧ Hid (L q = L p) ∧ Below w.heap.size w wr) (fun pv _ _ _ _ => strLen pv)
  case atStart => exact ⟨p, hp, by rw [Hps.out], HX.out.symm, by rw [HY.out], Lib.hid rfl, Below.refl _ _⟩
  case round =>
    obtain ⟨q, hq, rfl, rfl, rfl, hL, hbel⟩ := hrel
    have Hbel := Lib.hid hbel
    clear hlook
    cases hmq : m q with
    | some v =>
      have hval : Tm.val m q = v := by unfold Tm.val; rw [hmq]
      have hfin : Hid (Rgs wr F v (L p)) := Lib.hid (by rw [← hL.out]; exact (HV.out q v hmq).below hbel)
      rw [hval]
      clear hval hmq hbel hB
      go_wp2_with fail
      go_ret
      exact ⟨_, rfl, hfin.out, Hbel.out⟩
    | none =>
      have hval : Tm.val m q = .slice none 0 0 := by unfold Tm.val; rw [hmq]
      rw [hval]
      have ea := str_nil q
      have ia := str_empty q
      by_cases h0 : q = []
      · have hfin : Hid (Rgs wr F (.slice none 0 0) (L p)) := Lib.hid (by rw [← hL.out, h0, (HN.out q hmq).1 h0]; exact Rws.none _ _ _)
        rw [decide_eq_true h0] at ea ia
        clear hval hmq hbel h0 hB
        generalize mk q = qs at *
        go_wp2_with fail
        go_ret
        exact ⟨_, rfl, hfin.out, Hbel.out⟩
      · have hL2 : Hid (L (Pth.parent q) = L p) := Lib.hid (by rw [← hL.out]; exact ((HN.out q hmq).2 h0).symm)
        have hsh := Pth.parent_short h0
        have hpl : (Pth.parent q).length ≤ 100000 := by omega
        have PQ := Lib.hid (PA.out q hq)
        have hms : Hid (strLen (.string (mk (Pth.parent q))) < strLen (.string (mk q))) := Lib.hid (by show (mk (Pth.parent q)).size < (mk q).size; rw [mk_len, mk_len]; exact hsh)
        rw [decide_eq_false h0] at ea ia
        have LK2 := Lib.hid (fun W hW => LK.out W hW (Pth.parent q) hpl)
        have Hpl : Hid ((Pth.parent q).length ≤ 100000) := Lib.hid hpl
        generalize hpq : Pth.parent q = pq at *
        clear hval hmq hbel h0 hsh hpq hpl hB
        obtain ⟨qs, hqs⟩ : ∃ qs, qs = mk q := ⟨_, rfl⟩
        rw [← hqs] at ea ia PQ hms ⊢
        clear hqs
        go_wp2_with fail
        refine (PQ.out _).mono ?_
        rintro e w1 ⟨rfl, hb1⟩
        have HB1 := Lib.hid (Hbel.out.trans (hb1.mono Hbel.out.size))
        have hB := CB.out _ HB1.out
        have hlook := LK2.out _ HB1.out
        clear hb1
        generalize hx : Tm.val m pq = x at hlook
        generalize hy : (m pq).isSome = y at hlook
        have HX := Lib.hid hx
        have HY := Lib.hid hy
        clear hx hy
        obtain ⟨qs2, hqs2⟩ : ∃ qs, qs = mk pq := ⟨_, rfl⟩
        rw [← hqs2] at hlook hms ⊢
        have HQ2 := Lib.hid hqs2
        clear hqs2
        go_wp2_with fail
        exact ⟨⟨pq, Hpl.out, by rw [HQ2.out], HX.out.symm, by rw [HY.out], hL2, HB1.out⟩, hms.out⟩
end Go.Proofs.YtajhmgbicliihaaGreatDoor
/- The landed cover: the sizes at a prefix and those above it, out of the map (the closure of sizer). -/
set_option linter.unusedSimpArgs false
set_option linter.unusedVariables false
namespace Go.Proofs.YtajhmgbicliihaaGreatDoor
open Go.RowKit

set_option maxRecDepth 100000 in
/-- Asked for one value alone. -/
theorem TmAt.look1 {w : World} {bm n : Nat} {m : Tm.Fn} (h : TmAt w bm m n) {k : List UInt8} (hk : k.length ≤ 9223372036854775807) :
    (Instr.lookup 65 (.map (some bm)) (.string (mk k)) false).run Tryz.prog w = .ok (Tm.val m k) w := by
  obtain ⟨l, ht, -, h⟩ := h
  obtain ⟨v', ps, h1, h2⟩ := World.ownsMap.lookup h Tm.keyed Tryz.underlying65 (Tm.zero w) (zd := .held (.slice none 0 0)) (zp := []) rfl (Tm.key (k := mk k) (by rw [mk_len]; exact hk))
  rw [h1]
  rw [mk_data, Tm.datum_at ht] at h2
  unfold Tm.raw at h2
  have e := congrArg Prod.fst (Option.some.inj h2)
  unfold Tm.val
  cases hg : m k with
  | none => rw [hg] at e; have e : DataW.held v' = .held _ := e; injection e with e; rw [e]
  | some v => rw [hg] at e; have e : DataW.held v' = .held _ := e; injection e with e; rw [e]

set_option maxRecDepth 100000 in
set_option maxHeartbeats 3200000 in
/-- A slice of ranges, copied. -/
theorem clone_rg {w : World} {F : Nat → Prop} {v : Value} {f : List Sz.Rg} (h : Rgs w F v f) (hl : f.length ≤ 1000000) :
    Calls Tryz.prog 52 #[v] w fun e w' => ∃ v', e = .returned v' ∧ RowsOwn 37 2 rgV w f v' w' := by
  obtain ⟨i0, hi0, hz0, hz1, hz2⟩ := info_parts rangeInfo
  have hb0 : Below w.heap.size w (w.alloc (.cells #[] 37)) := (Below.refl _ _).alloc (Nat.le_refl _) _
  have hr := h.below hb0
  have h0own : (w.alloc (.cells #[] 37)).ownsRow w.heap.size 37 2 (.slice (some ⟨w.heap.size, 0, none⟩) 0 0) 0 [] := World.ownsRow_made w #[] 0 (Nat.le_refl _) (by decide) rfl
  obtain ⟨A, cap, rfl, hcap, hat⟩ := h
  have q22 : ∀ (w : World) (a : Option Addr) (n c n' c' : Nat), (binOp .eql 48 (.slice a n c) (.slice none n' c')).run Tryz.prog w = .ok (.bool a.isNone) w := fun w a n c n' c' => Lib.run_eql_slice_nil w _ _ a n c n' c' Tryz.underlying48
  cases A with
  | none =>
    have h0 : f.length = 0 := Nat.eq_zero_of_not_pos (fun hp => by obtain ⟨b, o, e, -⟩ := hat hp; cases e)
    have hf : f = [] := List.eq_nil_of_length_eq_zero h0
    subst hf
    clear hr hat
    go_enter Tryz.func52, Tryz.ntmps52
    go_wp2_with fail
    go_ret
    exact ⟨_, rfl, RowsOwn.start _ _ _ w⟩
  | some ad =>
    clear hat
    go_enter Tryz.func52, Tryz.ntmps52
    go_wp2_with (at_builtin; refine wp_joins (f := rgV) (k := 2) rfl _ _ 48 rfl w.heap.size 37 i0 (.agg #[.int .i64 0, .int .i64 0]) 16 Tryz.underlying48 hi0 hz0 hz1 hz2 rfl (by decide) rfl rfl h0own hr (fun _ _ => rfl) (fun x _ => rg_one x) ?a1 ?a2 ?a3 ?_)
    case a1 => unfold maxLen; omega
    case a2 => omega
    case a3 => simp
    intro v2 w2 own2 hg2 _
    have F2 := Lib.hid (RowsOwn.front hg2 (by rw [Nat.zero_add, List.nil_append]; exact own2))
    clear own2 hg2 hr h0own
    go_wp2_with fail
    go_ret
    exact ⟨_, rfl, F2.out⟩

set_option maxRecDepth 100000 in
set_option maxHeartbeats 3200000 in
theorem cov_tell {w : World} {F : Nat → Prop} {bm B n : Nat} {m : Tm.Fn} {L : List Flt.Cl} (hm : TmAt w bm m n) (hB : w.cell? ⟨B, 0, none⟩ = some (.map (some bm))) (hBl : B < w.heap.size)
    (hv : ∀ q, Rgs w F (Tm.val m q) (Cov.own L q)) (ho : ∀ q, (Cov.own L q).length ≤ 202) (hb : ∀ c ∈ L, 0 ≤ c.lo ∧ c.lo ≤ c.hi ∧ c.hi ≤ 200) (p : List UInt8) (hp : p.length ≤ 100000) :
    Calls Tryz.prog 51 #[.string (mk p), .pointer (some ⟨B, 0, none⟩)] w fun e w' => ∃ v X, e = .returned v ∧ RowsOwn 37 2 rgV w X v w' ∧ Cov.Ups L p [] X := by
  obtain ⟨i0, hi0, hz0, hz1, hz2⟩ := info_parts rangeInfo
  have LK : Hid (∀ (W : World), Below w.heap.size w W → ∀ q : List UInt8, q.length ≤ 100000 → (Instr.lookup 65 (.map (some bm)) (.string (mk q)) false).run Tryz.prog W = .ok (Tm.val m q) W) := Lib.hid (fun W hW q hq => (hm.below hW).look1 (by omega))
  have CB : Hid (∀ (W : World), Below w.heap.size w W → W.cell? ⟨B, 0, none⟩ = some (.map (some bm))) := Lib.hid (fun W hW => (hW.cell (p := ⟨B, 0, none⟩) hBl).trans hB)
  have HV : Hid (∀ (W : World), Below w.heap.size w W → ∀ q, Rgs W F (Tm.val m q) (Cov.own L q)) := Lib.hid (fun W hW q => (hv q).below hW)
  have HO := Lib.hid ho
  have ST := Lib.hid (Cov.ups_start ho hb p)
  have UP : Hid (∀ {q : List UInt8} {X : List Sz.Rg}, q ≠ [] → Cov.Ups L p q X → Cov.Ups L p (Pth.parent q) (X ++ Cov.own L (Pth.parent q))) := Lib.hid (fun hq hX => Cov.ups_step ho hb hq hX)
  have PA := Lib.hid (fun (q : List UInt8) (hq : q.length ≤ 100000) (W : World) => path_ok.parent q W hq)
  have hlook := LK.out w (Below.refl _ _) p hp
  have CL := Lib.hid (clone_rg (hv p) (by have := ho p; omega))
  have HPL := Lib.hid hp
  clear hm hv hBl ho hb
  obtain ⟨ps, hps⟩ : ∃ ps, ps = mk p := ⟨_, rfl⟩
  rw [← hps] at hlook ⊢
  have Hps := Lib.hid hps
  clear hps
  generalize hx : Tm.val m p = x at hlook CL
  clear hx
  go_enter Tryz.func51, Tryz.ntmps51
  go_wp2_with fail
  refine (CL.out).mono ?_
  rintro e w1 ⟨v1, rfl, h1⟩
  have H1 := Lib.hid h1
  clear h1 hlook hB hp
  go_wp2_with fail
  go_loopw [0, 4] (fun pv l wr => ∃ (q : List UInt8) (X : List Sz.Rg), q.length ≤ 100000 ∧ pv = .string (mk q) ∧ RowsOwn 37 2 rgV w X l wr ∧ Hid (Cov.Ups L p q X)) (fun pv _ _ => strLen pv)
  case atStart => exact ⟨p, Cov.own L p, HPL.out, by rw [Hps.out], H1.out, ST⟩
  case round =>
    obtain ⟨q, X, hq, rfl, hX, hU⟩ := hrel
    have HX := Lib.hid hX
    have ea := str_nil q
    have ia := str_empty q
    by_cases h0 : q = []
    · have hfin : Hid (Cov.Ups L p [] X) := Lib.hid (by have := hU.out; rwa [h0] at this)
      rw [decide_eq_true h0] at ea ia
      clear h0 hX
      generalize mk q = qs at *
      go_wp2_with fail
      go_ret
      exact ⟨_, X, rfl, HX.out, hfin.out⟩
    · have hU2 := Lib.hid (UP.out h0 hU.out)
      have hsh := Pth.parent_short h0
      have hpl : (Pth.parent q).length ≤ 100000 := by omega
      have PQ := Lib.hid (PA.out q hq)
      have hms : Hid (strLen (.string (mk (Pth.parent q))) < strLen (.string (mk q))) := Lib.hid (by show (mk (Pth.parent q)).size < (mk q).size; rw [mk_len, mk_len]; exact hsh)
      have hXl : Hid (X.length ≤ 20200202) := Lib.hid (by have := hU.out.2.1; have := HPL.out; omega)
      rw [decide_eq_false h0] at ea ia
      have LK2 := Lib.hid (fun W hW => LK.out W hW (Pth.parent q) hpl)
      have HV2 := Lib.hid (fun W hW => HV.out W hW (Pth.parent q))
      have HO2 := Lib.hid (HO.out (Pth.parent q))
      have Hpl : Hid ((Pth.parent q).length ≤ 100000) := Lib.hid hpl
      generalize hpq : Pth.parent q = pq at *
      clear h0 hsh hpq hpl hX
      obtain ⟨qs, hqs⟩ : ∃ qs, qs = mk q := ⟨_, rfl⟩
      rw [← hqs] at ea ia PQ hms ⊢
      clear hqs
      go_wp2_with fail
      refine (PQ.out _).mono ?_
      rintro e w2 ⟨rfl, hb2⟩
      have HX2 := Lib.hid (HX.out.below hb2)
      have hB := CB.out _ HX2.out.2
      have hlook := LK2.out _ HX2.out.2
      have hown := HX2.out.1
      have hr := HV2.out _ HX2.out.2
      have hsz := HX2.out.2.size
      clear hb2
      generalize hx : Tm.val m pq = x at hlook hr
      clear hx
      obtain ⟨qs2, hqs2⟩ : ∃ qs, qs = mk pq := ⟨_, rfl⟩
      rw [← hqs2] at hlook hms ⊢
      have HQ2 := Lib.hid hqs2
      clear hqs2
      go_wp2_with (at_builtin; refine wp_joins (f := rgV) (k := 2) rfl _ _ 48 rfl w.heap.size 37 i0 (.agg #[.int .i64 0, .int .i64 0]) 16 Tryz.underlying48 hi0 hz0 hz1 hz2 rfl (by decide) rfl rfl hown hr (fun _ _ => rfl) (fun x _ => rg_one x) ?c3 ?c4 hsz ?_)
      case c3 => have := hXl.out; have := HO2.out; unfold maxLen; first | omega | (simp <;> omega)
      case c4 => have := hXl.out; have := HO2.out; first | omega | (simp <;> omega)
      intro v3 w3 own3 hg3 _
      have H3 := Lib.hid (HX2.out.rest hg3 own3)
      clear own3 hg3 hown hr hB hlook
      go_wp2_with fail
      exact ⟨⟨pq, X ++ Cov.own L pq, Hpl.out, by rw [HQ2.out], H3.out, hU2⟩, hms.out⟩
end Go.Proofs.YtajhmgbicliihaaGreatDoor
/- The landed cover's map while it is filled: each text's slice is the call's own, and no two share a block. -/
set_option linter.unusedSimpArgs false
set_option linter.unusedVariables false
namespace Go.Proofs.YtajhmgbicliihaaGreatDoor
open Go.RowKit

structure Grp (base : Nat) (w : World) (m : Tm.Fn) (T : List Flt.Cl) : Prop where
  own : ∀ q, w.ownsRow base 37 2 (Tm.val m q) (Cov.own T q).length ((Cov.own T q).flatMap rgV)
  apart : ∀ q q', q ≠ q' → ∀ g, (Tm.val m q).ownBlock = some g → (Tm.val m q').ownBlock ≠ some g

set_option maxRecDepth 100000 in
theorem Tm.val_set (m : Tm.Fn) (p q : List UInt8) (v : Value) : Tm.val (Tm.set m p v) q = if q = p then v else Tm.val m q := by
  unfold Tm.val Tm.set
  by_cases h : q = p
  · rw [if_pos h, if_pos h]
  · rw [if_neg h, if_neg h]

section
variable {base : Nat} {w w1 w2 : World} {m : Tm.Fn} {T : List Flt.Cl}
set_option maxRecDepth 100000 in
theorem Grp.start (base : Nat) (w : World) : Grp base w (fun _ => none) [] := ⟨fun q => World.ownsRow_nil _ _ _ _, fun q q' _ g h => by cases h⟩
set_option maxRecDepth 100000 in
theorem Grp.below (h : Grp base w m T) (k : Below w.heap.size w w1) : Grp base w1 m T := ⟨fun q => row_below (h.own q) k, h.apart⟩
set_option maxRecDepth 100000 in
theorem Grp.left (h : Grp base w m T) {b : Nat} (k : w.grownBy w1 (some b)) (hb : b < base) : Grp base w1 m T :=
  ⟨fun q => own_left (h.own q) k (fun g hg e => by injection e with e; have := ((h.own q).lt g hg).1; omega), h.apart⟩
set_option maxRecDepth 100000 in
theorem Grp.put (h : Grp base w m T) {p : List UInt8} {lo hi : Int} {v : Value} (ho : w1.ownsRow base 37 2 v ((Cov.own T p).length + 1) ((Cov.own T p).flatMap rgV ++ rgV (lo, hi))) (hg : w.grownBy w1 (Tm.val m p).ownBlock) (hn : Near w (Tm.val m p) v) : Grp base w1 (Tm.set m p v) (T ++ [⟨p, lo, hi⟩]) := by
  constructor
  · intro q
    rw [Tm.val_set, Cov.own_more]
    by_cases e : q = p
    · subst e
      rw [if_pos rfl, if_pos rfl, List.length_append, List.flatMap_append]
      simpa [Flt.rg] using ho
    · rw [if_neg e, if_neg (fun h => e h.symm), List.append_nil]
      exact own_left (h.own q) hg (fun g hq e2 => h.apart q p e g hq e2)
  · intro q q' hne g hq hq'
    rw [Tm.val_set] at hq hq'
    by_cases e : q = p
    · rw [if_pos e] at hq
      by_cases e' : q' = p
      · exact hne (e.trans e'.symm)
      · rw [if_neg e'] at hq'
        rcases hn with hn | hn
        · rw [hn] at hq
          exact h.apart q' p e' g hq' hq
        · have h1 := hn g hq
          have h2 := ((h.own q').lt g hq').2
          omega
    · rw [if_neg e] at hq
      by_cases e' : q' = p
      · rw [if_pos e'] at hq'
        rcases hn with hn | hn
        · rw [hn] at hq'
          exact h.apart q p e g hq hq'
        · have h1 := hn g hq'
          have h2 := ((h.own q).lt g hq).2
          omega
      · rw [if_neg e'] at hq'
        exact h.apart q q' hne g hq hq'
set_option maxRecDepth 100000 in
theorem Grp.rows (h : Grp base w m T) (q : List UInt8) : Rgs w (fun i => base ≤ i) (Tm.val m q) (Cov.own T q) := Rws.ofOwn (h.own q) rfl (fun _ _ => rfl) (fun _ _ h1 _ => h1)
end
end Go.Proofs.YtajhmgbicliihaaGreatDoor
