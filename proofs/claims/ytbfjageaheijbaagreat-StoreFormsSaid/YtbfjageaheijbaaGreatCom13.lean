/- The landed store's map in memory: sorted pairs as a map's datum; looks, stores, removals, a copy. -/
import Derived.Test.YtbfjageaheijbaaGreatCom8
import Derived.Test.YtbfjageaheijbaaGreatCom12
import Derived.Test.YtbfjageaheijbaaGreatCom9
import Derived.Test.YtbfjageaheijbaaGreatCom1
import Derived.Test.YtbfjageaheijbaaGreatCom2
import Derived.Test.YtbfjageaheijbaaGreatCom6
import Derived.StringKeys
import Derived.Shelf.SlMaps.Clone
import Derived.Test.YtbfjageaheijbaaGreatRows
import Derived.WalkKit
import Derived.WalkSpells
import Derived.Lib.Hide
import Derived.Lib.Strings
import Derived.Deep.QuietTactic
import Derived.BigQuiet
import Derived.Laws.BitsAllLaws
import Derived.Lib.BufferWrite
import Derived.Lib.UnsafeStr
import Derived.Laws.MakeOwn
set_option linter.unusedSimpArgs false
set_option linter.unusedVariables false
namespace Go.Proofs.YtbfjageaheijbaaGreat
open Go.RowKit

def laidOf (p : Sto.Pr) : Nat := (Frm.one (Sto.single p)).length
def elemV (p : Sto.Pr) : Value := .agg #[.string (mk p.2), .int .i64 (laidOf p : Int)]
def ent (p : Sto.Pr) : Lit × DataW Value := (.string p.1, .held (elemV p))
def datum (l : List Sto.Pr) : DataW Value := .map (l.map ent)

set_option maxRecDepth 100000 in
theorem before_lt : ∀ (a b : List UInt8), bytesBefore a b = decide (a < b)
  | [], [] => by simp [bytesBefore]
  | [], _ :: _ => by simp [bytesBefore]
  | _ :: _, [] => by simp [bytesBefore]
  | x :: a, y :: b => by
    unfold bytesBefore
    rw [before_lt a b]
    by_cases h : x < y
    · simp [h, List.cons_lt_cons_iff]
    · by_cases e : x = y
      · subst e; simp [List.cons_lt_cons_iff]
      · simp [h, e, List.cons_lt_cons_iff]

set_option maxRecDepth 100000 in
theorem same_key (a b : List UInt8) : Lit.sameKey (.string a) (.string b) = decide (a = b) := by
  show (a == b) = _
  rw [Bool.eq_iff_iff]; simp

set_option maxRecDepth 100000 in
theorem filter_ent (l : List Sto.Pr) (k : Sto.Key) : (l.map ent).filter (fun p => !p.1.sameKey (.string k)) = (Sto.drop l k).map ent := by
  unfold Sto.drop
  rw [List.filter_map]
  congr 1
  apply List.filter_congr
  intro x _
  show (!(Lit.sameKey (.string x.1) (.string k))) = _
  rw [same_key, decide_not]

set_option maxRecDepth 100000 in
theorem datum_del (l : List Sto.Pr) (k : Sto.Key) : (datum l).del (.string k) = datum (Sto.drop l k) := by
  show DataW.map ((l.map ent).filter fun p => !p.1.sameKey (.string k)) = _
  rw [filter_ent]
  rfl

set_option maxRecDepth 100000 in
theorem insert_ent (k : Sto.Key) (v : List UInt8) : ∀ (l : List Sto.Pr), (∀ p ∈ l, p.1 ≠ k) → DataW.insert (ent (k, v)) (l.map ent) = (Sto.low l k ++ (k, v) :: Sto.high l k).map ent
  | [], _ => rfl
  | y :: l, h => by
    have hy := h y (by simp)
    have ih := insert_ent k v l (fun p hp => h p (by simp [hp]))
    rw [List.map_cons]
    unfold DataW.insert
    have e : (ent (k, v)).1.before (ent y).1 = decide (k < y.1) := before_lt k y.1
    rw [e]
    by_cases hk : k < y.1
    · have hn : ¬ y.1 < k := Sto.klt_asymm hk
      unfold Sto.low Sto.high
      simp [hk, hn]
    · have hp : y.1 < k := (Sto.klt_or hy).resolve_right hk
      rw [ih]
      unfold Sto.low Sto.high
      simp [hk, hp]

set_option maxRecDepth 100000 in
theorem datum_put (l : List Sto.Pr) (k : Sto.Key) (v : List UInt8) : (datum l).put (.string k) (.held (elemV (k, v))) = datum (Sto.put l k v) := by
  show DataW.map (DataW.insert (ent (k, v)) ((l.map ent).filter fun p => !p.1.sameKey (.string k))) = _
  rw [filter_ent]
  rw [insert_ent k v _ (fun p hp => Sto.drop_ne hp)]
  rfl

set_option maxRecDepth 100000 in
theorem find_ent (l : List Sto.Pr) (k : Sto.Key) : (l.map ent).find? (fun p => p.1.sameKey (.string k)) = (l.find? fun p => decide (p.1 = k)).map ent := by
  rw [List.find?_map]
  congr 2
  funext x
  exact same_key x.1 k

set_option maxRecDepth 100000 in
theorem datum_at (l : List Sto.Pr) (k : Sto.Key) (z : DataW Value) : (datum l).atKey (.string k) z = (match Sto.get l k with | some v => .held (elemV (k, v)) | none => z) := by
  unfold datum DataW.atKey Sto.get
  simp only [find_ent]
  cases h : l.find? fun p => decide (p.1 = k) with
  | none => rfl
  | some p =>
    have := List.find?_some h
    have e : p.1 = k := by simpa using this
    subst e
    rfl

set_option maxRecDepth 100000 in
theorem datum_has (l : List Sto.Pr) (k : Sto.Key) : Maps.has (datum l) (.string k) = (Sto.get l k).isSome := by
  unfold datum Sto.get
  rw [Maps.has_eq, List.any_map, Option.isSome_map]
  rw [Bool.eq_iff_iff, List.any_eq_true, List.find?_isSome]
  constructor
  · rintro ⟨x, hx, h⟩
    have h : (Lit.sameKey (.string x.1) (.string k)) = true := h
    rw [same_key] at h
    exact ⟨x, hx, by simpa using h⟩
  · rintro ⟨x, hx, h⟩
    refine ⟨x, hx, ?_⟩
    show (Lit.sameKey (.string x.1) (.string k)) = true
    rw [same_key]; exact h

set_option maxRecDepth 100000 in
theorem datum_size (l : List Sto.Pr) : Maps.size (datum l) = l.length := by
  unfold datum
  rw [Maps.size_eq, List.length_map]

set_option maxRecDepth 100000 in
theorem strKeyed : Go.Maps.Keyed Tryz.prog 9 := Go.Maps.string_keyed Tryz.underlying9
set_option maxRecDepth 100000 in
theorem strKey {k : ByteArray} (h : k.size ≤ 9223372036854775807) : keyOf Tryz.prog 9 (.string k) = some (.string k.data.toList) := Go.WideMaps.keyOf_string_mk Tryz.underlying9 h
set_option maxRecDepth 100000 in
theorem valueZero (w : World) : (zeroValue 110).run Tryz.prog w = .ok (.agg #[.string ⟨#[]⟩, .int .i64 0]) w := by kernel_rfl

/-- Block bm is a map of these pairs. -/
def MapAt (w : World) (bm : Nat) (l : List Sto.Pr) : Prop := w.ownsMap Tryz.prog 9 rawElem bm l.length (datum l)

section
variable {w w' : World} {bm n : Nat} {l : List Sto.Pr} {F G : Nat → Prop}

set_option maxRecDepth 100000 in
theorem map_tight (h : w.ownsMap Tryz.prog 9 rawElem bm n (datum l)) : MapAt w bm l := by
  obtain ⟨es, clock, hb, hf, hs, hD⟩ := h
  refine ⟨es, clock, hb, hf, ?_, hD⟩
  have h1 : Maps.size (datum l) = es.size := by rw [hD]; simp [Maps.size, length_sorted]
  rw [datum_size] at h1
  omega

set_option maxRecDepth 100000 in
theorem MapAt.lt (h : MapAt w bm l) : bm < w.heap.size := World.ownsMap.lt h

set_option maxRecDepth 100000 in
theorem MapAt.kept (h : MapAt w bm l) (k : Kept G w w') (hd : ¬ G bm) : MapAt w' bm l := by
  have hl := h.lt
  obtain ⟨es, clock, hb, r⟩ := h
  exact ⟨es, clock, (k.block bm hl hd).trans hb, r⟩

set_option maxRecDepth 100000 in
theorem MapAt.below {B : Nat} (h : MapAt w bm l) (k : Below B w w') (hB : bm < B) : MapAt w' bm l := by
  obtain ⟨es, clock, hb, r⟩ := h
  exact ⟨es, clock, (k.block bm hB).trans hb, r⟩

set_option maxRecDepth 100000 in
theorem MapAt.grown {row : Option Nat} (h : MapAt w bm l) (k : w.grownBy w' row) (hne : some bm ≠ row) : MapAt w' bm l := World.ownsMap.kept h k hne

set_option maxRecDepth 100000 in
theorem MapAt.made (w : World) : MapAt (w.alloc (.map #[] 0)) w.heap.size [] := World.ownsMap_made w _ _ _

set_option maxRecDepth 100000 in
theorem MapAt.not_row {b : Nat} {t : TypeId} {cs : Array Value} (h : MapAt w bm l) (hr : Row w b t cs) : b ≠ bm := by
  rintro rfl
  obtain ⟨es, clock, hb, _⟩ := h
  unfold Row at hr
  rw [hb] at hr; cases hr

set_option maxRecDepth 100000 in
theorem MapAt.look (h : MapAt w bm l) {k : ByteArray} (hk : k.size ≤ 9223372036854775807) :
    (Instr.lookup 74 (.map (some bm)) (.string k) true).run Tryz.prog w = .ok (.tuple #[(match Sto.get l k.data.toList with | some v => elemV (k.data.toList, v) | none => .agg #[.string ⟨#[]⟩, .int .i64 0]), .bool (Sto.get l k.data.toList).isSome]) w := by
  obtain ⟨v', ps, h1, h2⟩ := World.ownsMap.look_ok h strKeyed Tryz.underlying74 (valueZero w) (zd := .held (.agg #[.string ⟨#[]⟩, .int .i64 0])) (zp := []) rfl (strKey hk)
  rw [datum_has] at h1
  rw [h1]
  rw [datum_at] at h2
  unfold rawElem at h2
  have e := congrArg Prod.fst (Option.some.inj h2)
  cases hg : Sto.get l k.data.toList with
  | none => rw [hg] at e; have e : DataW.held v' = .held _ := e; injection e with e; rw [e]
  | some v => rw [hg] at e; have e : DataW.held v' = .held _ := e; injection e with e; rw [e]

set_option maxRecDepth 100000 in
theorem MapAt.look1 (h : MapAt w bm l) {k : ByteArray} (hk : k.size ≤ 9223372036854775807) {v : List UInt8} (hv : Sto.get l k.data.toList = some v) :
    (Instr.lookup 74 (.map (some bm)) (.string k) false).run Tryz.prog w = .ok (elemV (k.data.toList, v)) w := by
  obtain ⟨v', ps, h1, h2⟩ := World.ownsMap.lookup h strKeyed Tryz.underlying74 (valueZero w) (zd := .held (.agg #[.string ⟨#[]⟩, .int .i64 0])) (zp := []) rfl (strKey hk)
  rw [h1]
  rw [datum_at, hv] at h2
  unfold rawElem at h2
  have e := congrArg Prod.fst (Option.some.inj h2)
  have e : DataW.held v' = .held _ := e
  injection e with e
  rw [e]

set_option maxRecDepth 100000 in
theorem MapAt.len (h : MapAt w bm l) (ty : TypeId) : (Builtin.len_ #[74] ty #[.map (some bm)]).run Tryz.prog w = .ok (.int .i64 (l.length : Int)) w := by
  have := World.ownsMap.len h Tryz.underlying74 ty
  rwa [datum_size] at this

set_option maxRecDepth 100000 in
theorem MapAt.put (h : MapAt w bm l) (hn : l.length < 1000000000) {k : ByteArray} (hk : k.size ≤ 9223372036854775807) (v : List UInt8) :
    ∃ w', (Instr.mapUpdate 74 (.map (some bm)) (.string k) (elemV (k.data.toList, v))).run Tryz.prog w = .ok () w' ∧ MapAt w' bm (Sto.put l k.data.toList v) ∧ w.grownBy w' (some bm) := by
  obtain ⟨w', h1, h2, h3⟩ := World.ownsMap.update h strKeyed Tryz.underlying74 (by unfold maxLen; omega) (strKey hk) (val := elemV (k.data.toList, v)) (d := .held (elemV (k.data.toList, v))) (ps := []) rfl
  rw [datum_put] at h2
  exact ⟨w', h1, map_tight h2, h3⟩

set_option maxRecDepth 100000 in
theorem MapAt.drop (h : MapAt w bm l) {k : ByteArray} (hk : k.size ≤ 9223372036854775807) (ty : TypeId) :
    ∃ w', (Builtin.delete_ #[74, 9] ty #[.map (some bm), .string k]).run Tryz.prog w = .ok (.tuple #[]) w' ∧ MapAt w' bm (Sto.drop l k.data.toList) ∧ w.grownBy w' (some bm) := by
  obtain ⟨w', h1, h2, h3⟩ := World.ownsMap.drop h strKeyed Tryz.underlying74 (strKey hk) ty
  rw [datum_del] at h2
  exact ⟨_, h1, map_tight h2, h3.grown⟩

set_option maxRecDepth 100000 in
set_option maxHeartbeats 2000000 in
theorem map_clone (h : MapAt w bm l) : Calls Tryz.prog 93 #[.map (some bm)] w fun e w' => e = .returned (.map (some w.heap.size)) ∧ MapAt w' w.heap.size l ∧ Below w.heap.size w w' ∧ w'.heap.size = w.heap.size + 1 := by
  obtain ⟨es, clock, hb, hf, hs, hD⟩ := h
  have hq := fun w => run_eql_map_nil_sl (P := Tryz.prog) w 74 _ _ (some bm) Tryz.underlying74
  have fin : MapAt (w.alloc (.map es clock)) w.heap.size l := ⟨es, clock, (MapKept.heap_alloc w _).1, hf, hs, hD⟩
  clear hf hs hD
  go_enter Tryz.func93, Tryz.ntmps93
  go_wp2
  rw [run_callFunc_extern Tryz.func115 (by kernel_rfl) (by kernel_rfl) (by kernel_rfl) (e := Extern.MapsClone.clone) (by kernel_rfl), run_maps_clone_sl w 74 hb]
  simp only [Result.andThen]
  rw [Oper.upon_value]
  go_wp2
  rw [run_typeAssert_map_sl _ 74 20 _ _ _ Tryz.underlying74]
  simp only [Result.andThen]
  rw [Oper.upon_value]
  go_wp2
  go_ret
  exact ⟨rfl, fin, (Below.refl _ w).alloc (Nat.le_refl _) _, by simp⟩
end
end Go.Proofs.YtbfjageaheijbaaGreat
/- The landed store: which changes may be. -/
set_option linter.unusedSimpArgs false
set_option linter.unusedVariables false
namespace Go.Proofs.YtbfjageaheijbaaGreat
open Go.RowKit

def chA (c : Sto.Ch) : Value := .agg #[.string (mk c.key), .string (mk c.val), .bool c.gone]

set_option maxRecDepth 100000 in
theorem valid_facts (c : Sto.Ch) :
    ((mk c.key).toList == []) = decide (c.key = []) ∧ (mk c.key).toList.isEmpty = decide (c.key = []) ∧ ((mk c.val).toList == []) = decide (c.val = []) ∧ (mk c.val).toList.isEmpty = decide (c.val = []) ∧
      decide ((32 : Int) < ((mk c.key).size : Int)) = decide (32 < c.key.length) ∧ decide (((mk c.val).size : Int) ≤ 4096) = decide (c.val.length ≤ 4096) := by
  refine ⟨?_, ?_, ?_, ?_, ?_, ?_⟩
  · rw [Lib.toList_data, mk_data, Bool.eq_iff_iff]; simp
  · rw [Lib.toList_data, mk_data, Bool.eq_iff_iff]; simp
  · rw [Lib.toList_data, mk_data, Bool.eq_iff_iff]; simp
  · rw [Lib.toList_data, mk_data, Bool.eq_iff_iff]; simp
  · rw [mk_len, Bool.eq_iff_iff]; simp only [decide_eq_true_eq]; omega
  · rw [mk_len, Bool.eq_iff_iff]; simp only [decide_eq_true_eq]; omega

set_option maxRecDepth 100000 in
theorem may_eq (c : Sto.Ch) : decide (Sto.May c) = (!(decide (c.key = [])) && !(decide (32 < c.key.length)) && (if c.gone then decide (c.val = []) else decide (c.val.length ≤ 4096))) := by
  rw [Bool.eq_iff_iff]
  have e : c.key = [] ↔ c.key.length = 0 := List.length_eq_zero_iff.symm
  cases hg : c.gone
  · simp only [decide_eq_true_eq, Bool.and_eq_true, Bool.not_eq_true', decide_eq_false_iff_not, Sto.May, hg, e, if_false, Bool.false_eq_true, false_implies, and_true]
    omega
  · simp only [decide_eq_true_eq, Bool.and_eq_true, Bool.not_eq_true', decide_eq_false_iff_not, Sto.May, hg, e, if_true, true_implies]
    constructor
    · rintro ⟨h1, h2, h3, h4⟩; exact ⟨⟨by omega, by omega⟩, h4⟩
    · rintro ⟨⟨h1, h2⟩, h3⟩; exact ⟨by omega, by omega, by rw [h3]; simp, h3⟩

set_option maxRecDepth 100000 in
theorem sto_valid (c : Sto.Ch) (w : World) :
    Calls Tryz.prog 89 #[chA c] w fun e w' => e = .returned (.bool (decide (Sto.May c))) ∧ Below w.heap.size w w' := by
  obtain ⟨f1, f2, f3, f4, f5, f6⟩ := valid_facts c
  rw [may_eq]
  unfold chA
  generalize decide (c.key = []) = b1 at *
  generalize decide (c.val = []) = b2 at *
  generalize decide (32 < c.key.length) = b3 at *
  generalize decide (c.val.length ≤ 4096) = b4 at *
  generalize c.gone = g at *
  generalize mk c.key = K at *
  generalize mk c.val = V at *
  cases g <;> cases b1 <;> cases b2 <;> cases b3 <;> cases b4
  all_goals
    go_enter Tryz.func89, Tryz.ntmps89
    go_wp2_with fail
    go_ret
    exact ⟨rfl, by repeat (first | exact Below.refl _ _ | apply Below.drew | refine Below.alloc ?_ (Nat.le_refl _) _)⟩

/-- What allValid tells. -/
def validL (cs : List Sto.Ch) : Bool := decide (¬ (cs.length = 0 ∨ 1024 < cs.length) ∧ ∀ c ∈ cs, Sto.May c)

set_option maxRecDepth 100000 in
set_option maxHeartbeats 1600000 in
theorem sto_valids {w : World} {G : Nat → Prop} {cv : Value} {cs : List Sto.Ch} (h : Changes w G cv cs) (hl : cs.length ≤ 9223372036854775807) :
    Calls Tryz.prog 64 #[cv] w fun e w' => e = .returned (.bool (validL cs)) ∧ Below w.heap.size w w' := by
  obtain ⟨A, cap, rfl, hcap⟩ := h.slice
  by_cases hbad : cs.length = 0 ∨ 1024 < cs.length
  · have hv : validL cs = false := by unfold validL; rw [decide_eq_false_iff_not]; exact fun hh => hh.1 hbad
    rw [hv]
    have hL : (cs.length : Int) ≤ 9223372036854775807 := by omega
    have hf : (decide ((cs.length : Int) < 1) = true) ∨ (decide ((cs.length : Int) < 1) = false ∧ decide ((1024 : Int) < (cs.length : Int)) = true) := by
      rcases hbad with hb | hb
      · left; simp; omega
      · right; constructor <;> simp <;> omega
    clear h hv hbad hcap
    rcases hf with g1 | ⟨g1, g2⟩
    all_goals
      go_enter Tryz.func64, Tryz.ntmps64
      go_wp2_with fail
      go_ret
      exact ⟨rfl, Below.refl _ _⟩
  · have g1 : decide ((cs.length : Int) < 1) = false := by simp; omega
    have g2 : decide ((1024 : Int) < (cs.length : Int)) = false := by simp; omega
    have hL : (cs.length : Int) ≤ 1024 := by omega
    have h0 : 0 < cs.length := by omega
    obtain ⟨b, o, cap', e, -, hG, hlt⟩ := h.shape h0
    injection e with e1 e2 e3
    subst e1 e3
    have Hc := Lib.hid (fun (w' : World) (hb : Below w.heap.size w w') => h.below hb)
    have hbad' : ¬ (cs.length = 0 ∨ 1024 < cs.length) := hbad
    clear h hbad hcap h0
    go_enter Tryz.func64, Tryz.ntmps64
    go_wp2_with fail
    go_loopw [15] (fun i wr => ∃ k : Nat, k ≤ cs.length ∧ i = .int .i64 k ∧ Below w.heap.size w wr ∧ ∀ (j : Nat) (c : Sto.Ch), cs[j]? = some c → j < k → Sto.May c) (fun i _ => cs.length - (intOf i).toNat)
    case atStart => exact ⟨0, Nat.zero_le _, rfl, Below.refl _ _, fun j c _ hj => absurd hj (by omega)⟩
    case round =>
      obtain ⟨k, hk, rfl, hbel, hmay⟩ := hrel
      by_cases hlt2 : k < cs.length
      · obtain ⟨c, hc⟩ : ∃ c, cs[k]? = some c := ⟨cs[k], List.getElem?_eq_getElem hlt2⟩
        obtain ⟨c0, c1, c2⟩ := Changes.at (Hc.out wr hbel) hc
        have HC := Lib.hid hc
        clear hc
        have Hbn := Lib.hid (hbel.alloc hbel.size (.cells #[.string (mk c.key), .string (mk c.val), .bool c.gone] 52))
        have HV := Lib.hid (sto_valid c)
        unfold chA at HV
        by_cases hm : Sto.May c
        · have hmay' : Hid (∀ (j : Nat) (x : Sto.Ch), cs[j]? = some x → j < k + 1 → Sto.May x) := Lib.hid (by
            intro j x hx hj
            by_cases hjk : j = k
            · subst hjk
              rw [HC.out] at hx
              injection hx with hx
              rw [← hx]; exact hm
            · exact hmay j x hx (by omega))
          rw [decide_eq_true hm] at HV
          clear hm hmay
          go_wp2_with (go_at_call 89; refine (HV.out _).mono ?_; rintro e w1 ⟨rfl, hb1⟩)
          go_roundw
          case rel => exact ⟨k + 1, by omega, by go_num, Hbn.out.trans (hb1.mono Hbn.out.size), hmay'.out⟩
          case measure => simp [intOf]; omega
        · have hv : Hid (validL cs = false) := Lib.hid (by unfold validL; rw [decide_eq_false_iff_not]; exact fun hh => hm (hh.2 c (List.mem_of_getElem? HC.out)))
          rw [decide_eq_false hm] at HV
          clear hm hmay
          go_wp2_with (go_at_call 89; refine (HV.out _).mono ?_; rintro e w1 ⟨rfl, hb1⟩)
          go_ret
          exact ⟨by rw [hv.out]; rfl, Hbn.out.trans (hb1.mono Hbn.out.size)⟩
      · obtain rfl : k = cs.length := by omega
        have hv : Hid (validL cs = true) := Lib.hid (by
          unfold validL; rw [decide_eq_true_eq]
          refine ⟨hbad', fun c hc => ?_⟩
          obtain ⟨i, hi, hh⟩ := List.mem_iff_getElem.1 hc
          exact hmay i c (by rw [List.getElem?_eq_getElem hi, hh]) hi)
        clear hmay
        go_wp2_with fail
        go_ret
        exact ⟨by rw [hv.out]; rfl, hbel⟩
end Go.Proofs.YtbfjageaheijbaaGreat
/- The small methods of the reader: Err, Left, fail, take, End. -/
namespace Go.Proofs.YtbfjageaheijbaaGreat
open Go.RowKit

/-- The reader at block b: what is left of its bytes, and its error. -/
def Rd (w : World) (b : Nat) (r : ByteArray) (e : Int) : Prop := Row w b 138 #[.string r, .int .i64 e]

set_option maxRecDepth 100000 in
theorem err_nil (w : World) : Calls Tryz.prog 61 #[.pointer none] w fun e w' => e = .returned (.int .i64 1) ∧ w = w' := by
  go_enter Tryz.func61, Tryz.ntmps61
  go_wp2
  go_ret
  exact ⟨rfl, rfl⟩

set_option maxRecDepth 100000 in
theorem err_any {w : World} {b : Nat} {r : ByteArray} {e0 : Int} (h : Rd w b r e0) :
    Calls Tryz.prog 61 #[.pointer (some ⟨b, 0, none⟩)] w fun e w' => e = .returned (.int .i64 e0) ∧ w = w' := by
  have c1 : w.cell? ⟨b, 1, none⟩ = some (.int .i64 e0) := Row.at h 1
  clear h
  go_enter Tryz.func61, Tryz.ntmps61
  go_wp2
  go_ret
  exact ⟨rfl, rfl⟩

set_option maxRecDepth 100000 in
theorem left_nil (w : World) : Calls Tryz.prog 59 #[.pointer none] w fun e w' => e = .returned (.int .i64 0) ∧ w = w' := by
  go_enter Tryz.func59, Tryz.ntmps59
  go_wp2
  go_ret
  exact ⟨rfl, rfl⟩

set_option maxRecDepth 100000 in
theorem left_any {w : World} {b : Nat} {r : ByteArray} {e0 : Int} (h : Rd w b r e0) :
    Calls Tryz.prog 59 #[.pointer (some ⟨b, 0, none⟩)] w fun e w' => e = .returned (.int .i64 r.size) ∧ w = w' := by
  have c0 : w.cell? ⟨b, 0, none⟩ = some (.string r) := Row.at h 0
  clear h
  go_enter Tryz.func59, Tryz.ntmps59
  go_wp2
  go_ret
  exact ⟨rfl, rfl⟩

set_option maxRecDepth 100000 in
theorem fail_any {w : World} {b : Nat} {r : ByteArray} {e0 : Int} (h : Rd w b r e0) (x : Int) :
    Calls Tryz.prog 110 #[.pointer (some ⟨b, 0, none⟩), .int .i64 x] w fun e w' => e = .returned (.tuple #[]) ∧ Rd w' b ⟨#[]⟩ x ∧ w.grownBy w' (some b) := by
  have c0 : w.cell? ⟨b, 0, none⟩ = some (.string r) := Row.at h 0
  have c1 : w.cell? ⟨b, 1, none⟩ = some (.int .i64 e0) := Row.at h 1
  have f0 := Row.free h 0
  have f1 := Row.free h 1
  have k1 : Row ((w.setCell ⟨b, 0, none⟩ (.string ⟨#[]⟩)).setCell ⟨b, 1, none⟩ (.int .i64 x)) b 138 #[.string ⟨#[]⟩, .int .i64 x] := by
    simpa using (Row.stored h 0 (.string ⟨#[]⟩)).stored 1 (.int .i64 x)
  have K1 := Lib.hid k1
  clear k1 h
  go_enter Tryz.func110, Tryz.ntmps110
  go_wp2
  go_end0
  exact ⟨rfl, K1.out, gb_store (gb_store (gb_refl _ _) 0 _) 1 _⟩

set_option maxRecDepth 100000 in
theorem take_none {w : World} {b : Nat} {r : ByteArray} {e0 : Int} (h : Rd w b r e0) (h0 : r.size = 0) :
    Calls Tryz.prog 112 #[.pointer (some ⟨b, 0, none⟩)] w fun e w' => e = .returned (.tuple #[.int .u8 0, .bool false]) ∧ w = w' := by
  obtain rfl : r = ⟨#[]⟩ := ByteArray.ext (Array.eq_empty_of_size_eq_zero h0)
  have c0 : w.cell? ⟨b, 0, none⟩ = some (.string ⟨#[]⟩) := Row.at h 0
  clear h h0
  go_enter Tryz.func112, Tryz.ntmps112
  go_wp2
  go_ret2
  exact ⟨rfl, rfl⟩

set_option maxRecDepth 100000 in
theorem take_some {w : World} {b : Nat} {r : ByteArray} {e0 : Int} (h : Rd w b r e0) (h0 : 0 < r.size) (hm : r.size ≤ 281474976710656) :
    Calls Tryz.prog 112 #[.pointer (some ⟨b, 0, none⟩)] w fun e w' =>
      e = .returned (.tuple #[.int .u8 (r[0]'h0).toNat, .bool true]) ∧ Rd w' b (r.extract 1 r.size) e0 ∧ w.grownBy w' (some b) := by
  have c0 : w.cell? ⟨b, 0, none⟩ = some (.string r) := Row.at h 0
  have f0 := Row.free h 0
  have k1 : Row (w.setCell ⟨b, 0, none⟩ (.string (r.extract 1 r.size))) b 138 #[.string (r.extract 1 r.size), .int .i64 e0] := by
    simpa using Row.stored h 0 (.string (r.extract 1 r.size))
  have K1 := Lib.hid k1
  clear k1 h
  have hne : r.toList.isEmpty = false := by
    rw [List.isEmpty_eq_false_iff, Lib.toList_data]
    intro hh
    have := Lib.size_eq r
    rw [hh] at this
    simp only [List.length_nil] at this
    omega
  go_enter Tryz.func112, Tryz.ntmps112
  go_wp2
  go_ret2
  exact ⟨rfl, K1.out, gb_store (gb_refl _ _) 0 _⟩

/-- What End answers, by what is left and by the error. -/
def endOf (n : Nat) (e : Int) : Int := if e = 0 then (if n = 0 then 0 else 6) else e

end Go.Proofs.YtbfjageaheijbaaGreat
/- 'number': the number that the reader's bytes begin with, byte by byte. -/
namespace Go.Proofs.YtbfjageaheijbaaGreat
open Go.RowKit

/-- What 'number' leaves: what 'Leb.first' says, and the reader's bytes cut. -/
def NumPost (w : World) (b : Nat) (r : ByteArray) (e0 : Int) (e : Ending) (w' : World) : Prop :=
  ∃ j, e = .returned (.tuple #[.int .i64 (Leb.first r.data.toList).1, .int .i64 (Leb.first r.data.toList).2.2]) ∧ Rd w' b (r.extract j r.size) e0 ∧ w.grownBy w' (some b) ∧
    ((Leb.first r.data.toList).2.2 = 0 → j = (Leb.first r.data.toList).2.1)

/-- At the head of round k. -/
def NumRel (w : World) (b : Nat) (r : ByteArray) (e0 : Int) (k acc : Nat) (wr : World) : Prop :=
  k ≤ r.size ∧ Rd wr b (r.extract k r.size) e0 ∧ w.grownBy wr (some b) ∧ acc < 128 ^ k ∧ Leb.dec (9 - k) k acc (r.data.toList.drop k) = Leb.first r.data.toList

/-! ### What the round reckons -/

set_option maxRecDepth 100000 in
theorem or64 (acc d k : Nat) (hk : k < 9) (ha : acc < 128 ^ k) (hd : d < 128) :
    bits .or .i64 (acc : Int) (wrap64 ((d : Int) * 2 ^ (7 * k))) = ((acc + d * 128 ^ k : Nat) : Int) := by
  have e : (128 : Nat) ^ k = 2 ^ (7 * k) := by rw [Nat.pow_mul]
  have hpow : (128 : Nat) ^ (k + 1) ≤ 128 ^ 9 := Nat.pow_le_pow_right (by omega) (by omega)
  have h9 : (128 : Nat) ^ 9 = 9223372036854775808 := by decide
  have hs : (128 : Nat) ^ (k + 1) = 128 ^ k * 128 := Nat.pow_succ _ _
  have hdm : d * 128 ^ k ≤ 127 * 128 ^ k := Nat.mul_le_mul_right _ (by omega)
  have hb : d * 128 ^ k < 9223372036854775808 := by omega
  have hcast : ((d : Int) * 2 ^ (7 * k)) = ((d * 128 ^ k : Nat) : Int) := by rw [e]; push_cast; rfl
  have hor : acc ||| (d * 128 ^ k) = acc + d * 128 ^ k := by
    have := Leb.or_low acc d k ha
    rw [Nat.shiftLeft_eq, ← e] at this
    exact this
  have h1 : (BitVec.ofInt 64 (acc : Int)).toNat = acc := by
    rw [BitVec.ofInt_natCast, BitVec.toNat_ofNat]; exact Nat.mod_eq_of_lt (by omega)
  have h2 : (BitVec.ofInt 64 ((d * 128 ^ k : Nat) : Int)).toNat = d * 128 ^ k := by
    rw [BitVec.ofInt_natCast, BitVec.toNat_ofNat]; exact Nat.mod_eq_of_lt (by omega)
  rw [hcast, IntWalk.wrap64_in _ ⟨by omega, by omega⟩]
  show IntKind.i64.wrap ((BitVec.ofInt 64 (acc : Int) ||| BitVec.ofInt 64 ((d * 128 ^ k : Nat) : Int)).toNat : Int) = _
  rw [BitVec.toNat_or, h1, h2, hor]
  exact IntWalk.i64_in _ ⟨by omega, by omega⟩

set_option maxRecDepth 100000 in
theorem and127 (x : Nat) (h : x < 256) : bits .and .u8 (x : Int) 127 = ((x % 128 : Nat) : Int) := by
  have := u8_and_nat x 127 h (by omega)
  rw [Leb.and_low] at this
  exact this

set_option maxRecDepth 100000 in
theorem and128 (x : Nat) (h : x < 256) : bits .and .u8 (x : Int) 128 = ((if x < 128 then 0 else 128 : Nat) : Int) := by
  have := u8_and_nat x 128 h (by omega)
  rw [Leb.and_high x h] at this
  exact this

set_option maxRecDepth 100000 in
theorem take_at {w : World} {b k : Nat} {r : ByteArray} {e0 : Int} {c : UInt8} (h : Rd w b (r.extract k r.size) e0) (hc : r.data.toList[k]? = some c) (hk : k < r.size) (hm : r.size ≤ 281474976710656) :
    Calls Tryz.prog 112 #[.pointer (some ⟨b, 0, none⟩)] w fun e w' =>
      e = .returned (.tuple #[.int .u8 c.toNat, .bool true]) ∧ Rd w' b (r.extract (k + 1) r.size) e0 ∧ w.grownBy w' (some b) := by
  have hs : (r.extract k r.size).size = r.size - k := by simp
  refine (take_some h (by omega) (by omega)).mono ?_
  rintro e w' ⟨rfl, h1, h2⟩
  rw [at_data (r.extract k r.size) (by omega) (c := c) (by rw [cut_data, List.getElem?_drop]; exact hc)]
  rw [cut_cut] at h1
  exact ⟨rfl, h1, h2⟩

set_option maxRecDepth 100000 in
set_option maxHeartbeats 800000 in
theorem number_any {w : World} {b : Nat} {r : ByteArray} {e0 : Int} (h : Rd w b r e0) (hm : r.size ≤ 281474976710656) :
    Calls Tryz.prog 111 #[.func (.func 112) #[.pointer (some ⟨b, 0, none⟩)] #[]] w (NumPost w b r e0) := by
  have h0 : NumRel w b r e0 0 0 w := ⟨Nat.zero_le _, by rw [show r.extract 0 r.size = r from by simp]; exact h, gb_refl _ _, by simp, by rw [List.drop_zero]; rfl⟩
  clear h
  go_enter Tryz.func111, Tryz.ntmps111
  go_wp2_with fail
  go_loopw [4, 8] (fun n i wr => ∃ k acc : Nat, k ≤ 9 ∧ i = .int .i64 k ∧ n = .int .i64 acc ∧ NumRel w b r e0 k acc wr) (fun _ i _ => (9 - intOf i).toNat)
  case atStart => exact ⟨0, 0, by omega, rfl, rfl, h0⟩
  case round =>
    obtain ⟨k, acc, hk, rfl, rfl, hrel⟩ := hrel
    by_cases h9 : k < 9
    · obtain ⟨hkr, hrd, hgb, hacc, hdec⟩ := hrel
      have Hdec := Lib.hid hdec
      clear hdec
      by_cases hlt : k < r.size
      · obtain ⟨c, hc⟩ : ∃ c : UInt8, r.data.toList[k]? = some c := ⟨r.data.toList[k]'(by rw [← Lib.size_eq]; exact hlt), List.getElem?_eq_getElem _⟩
        have hdrop : r.data.toList.drop k = c :: r.data.toList.drop (k + 1) := by
          obtain ⟨hl, he⟩ := List.getElem?_eq_some_iff.1 hc
          rw [List.drop_eq_getElem_cons hl, he]
        have hc256 := c.toNat_lt
        obtain ⟨f, hf⟩ : ∃ f, 9 - k = f + 1 := ⟨8 - k, by omega⟩
        have hdec' : Leb.first r.data.toList = if c = 0 ∧ 0 < k then (0, 0, 6) else if c.toNat < 128 then (acc + c.toNat % 128 * 128 ^ k, k + 1, 0) else Leb.dec (9 - (k + 1)) (k + 1) (acc + c.toNat % 128 * 128 ^ k) (r.data.toList.drop (k + 1)) := by
          rw [← Hdec.out, hdrop, hf, Leb.dec]
          have : 9 - (k + 1) = f := by omega
          rw [this]
        have Hdec2 := Lib.hid hdec'
        clear hdec' hdrop hf
        obtain ⟨x, hx⟩ : ∃ x : Nat, x = c.toNat := ⟨_, rfl⟩
        have hx256 : x < 256 := by omega
        have htk : Calls Tryz.prog 112 #[.pointer (some ⟨b, 0, none⟩)] wr fun e w' =>
            e = .returned (.tuple #[.int .u8 x, .bool true]) ∧ Rd w' b (r.extract (k + 1) r.size) e0 ∧ wr.grownBy w' (some b) := by rw [hx]; exact take_at hrd hc hlt hm
        have Htk := Lib.hid htk
        have Hx := Lib.hid hx
        obtain ⟨d, hd⟩ : ∃ d : Nat, d = x % 128 := ⟨_, rfl⟩
        have hd1 : d < 128 := by omega
        obtain ⟨n, hn⟩ : ∃ n : Nat, n = acc + d * 128 ^ k := ⟨_, rfl⟩
        have ha1 : bits .and .u8 (x : Int) 127 = (d : Int) := by rw [and127 x hx256, hd]
        have ho1 : bits .or .i64 (acc : Int) (wrap64 ((d : Int) * 2 ^ (7 * k))) = (n : Int) := by rw [or64 acc d k h9 hacc hd1, hn]
        have hn128 : n < 128 ^ (k + 1) := by
          rw [hn, Nat.pow_succ]
          have : d * 128 ^ k ≤ 127 * 128 ^ k := Nat.mul_le_mul_right _ (by omega)
          omega
        have Hn := Lib.hid hn
        have Hd := Lib.hid hd
        have Hacc := Lib.hid hacc
        have Hn128 := Lib.hid hn128
        have hne : ((0 : Int) == 0) = true := rfl
        clear hd hx htk hc hrd hn hacc hn128
        by_cases hx0 : x = 0 ∧ 0 < k
        · obtain ⟨h1, h2⟩ := hx0
          have hb0 : ((x : Int) == 0) = true := by rw [h1]; rfl
          have hc0 : c = 0 := by
            have := Hx.out
            rw [h1] at this
            exact UInt8.toNat_inj.1 this.symm
          have hfin : Hid (Leb.first r.data.toList = (0, 0, 6)) := by rw [Hdec2.out, if_pos ⟨hc0, h2⟩]; rfl
          clear h1 ha1 ho1
          go_wp2_with (go_at_call 112; refine (Htk.out).mono ?_; rintro e w' ⟨rfl, hrd', hgb'⟩)
          go_ret2
          exact ⟨k + 1, by rw [hfin.out]; rfl, hrd', gb_trans hgb hgb', by rw [hfin.out]; simp⟩
        · by_cases hx1 : x < 128
          · have ha2 : bits .and .u8 (x : Int) 128 = 0 := by rw [and128 x hx256, if_pos hx1]; rfl
            have hcz : ¬ (c = 0 ∧ 0 < k) := by
              rintro ⟨h1, h2⟩
              exact hx0 ⟨by rw [Hx.out, h1]; rfl, h2⟩
            have hfin : Hid (Leb.first r.data.toList = (n, k + 1, 0)) := by
              have e := Hn.out
              rw [Hd.out, Hx.out] at e
              rw [Hdec2.out, if_neg hcz, if_pos (by rw [← Hx.out]; exact hx1), ← e]; rfl
            by_cases hxz : x = 0
            · have hb0 : ((x : Int) == 0) = true := by rw [hxz]; rfl
              have hk0 : ¬ 0 < k := fun h => hx0 ⟨hxz, h⟩
              clear hx0 hcz hxz hx1
              go_wp2_with (go_at_call 112; refine (Htk.out).mono ?_; rintro e w' ⟨rfl, hrd', hgb'⟩)
              go_ret2
              exact ⟨k + 1, by rw [hfin.out]; rfl, hrd', gb_trans hgb hgb', by rw [hfin.out]; simp⟩
            · have hb0 : ((x : Int) == 0) = false := by simp; omega
              clear hx0 hcz hxz hx1
              go_wp2_with (go_at_call 112; refine (Htk.out).mono ?_; rintro e w' ⟨rfl, hrd', hgb'⟩)
              go_ret2
              exact ⟨k + 1, by rw [hfin.out]; rfl, hrd', gb_trans hgb hgb', by rw [hfin.out]; simp⟩
          · have ha2 : bits .and .u8 (x : Int) 128 = 128 := by rw [and128 x hx256, if_neg hx1]; rfl
            have hcz : ¬ (c = 0 ∧ 0 < k) := by
              rintro ⟨h1, h2⟩
              exact hx0 ⟨by rw [Hx.out, h1]; rfl, h2⟩
            have hfin : Hid (Leb.dec (9 - (k + 1)) (k + 1) n (r.data.toList.drop (k + 1)) = Leb.first r.data.toList) := by
              have e := Hn.out
              rw [Hd.out, Hx.out] at e
              rw [Hdec2.out, if_neg hcz, if_neg (by rw [← Hx.out]; exact hx1), ← e]; rfl
            have hb0 : ((x : Int) == 0) = false := by simp; omega
            clear hx0 hcz hx1
            go_wp2_with (go_at_call 112; refine (Htk.out).mono ?_; rintro e w' ⟨rfl, hrd', hgb'⟩)
            go_roundw
            case rel => exact ⟨k + 1, n, by omega, by go_num, rfl, by omega, hrd', gb_trans hgb hgb', Hn128.out, hfin.out⟩
            case measure => simp [intOf]; omega
      · have hs0 : (r.extract k r.size).size = 0 := by simp; omega
        have hfin : Hid (Leb.first r.data.toList = (0, 0, 5)) := by
          obtain ⟨f, hf⟩ : ∃ f, 9 - k = f + 1 := ⟨8 - k, by omega⟩
          have : r.data.toList.drop k = [] := List.drop_eq_nil_of_le (by rw [← Lib.size_eq]; omega)
          rw [← Hdec.out, this, hf]; rfl
        have Hs0 := Lib.hid hs0
        clear hs0 hacc
        go_wp2_with (go_at_call 112; refine (take_none hrd Hs0.out).mono ?_; rintro e w' ⟨rfl, rfl⟩)
        go_ret2
        exact ⟨k, by rw [hfin.out]; rfl, hrd, hgb, by rw [hfin.out]; simp⟩
    · obtain ⟨hkr, hrd, hgb, hacc, hdec⟩ := hrel
      obtain rfl : k = 9 := by omega
      have hfin : Hid (Leb.first r.data.toList = (0, 0, 6)) := by rw [← hdec]; rfl
      clear hdec hacc
      go_wp2_with fail
      go_ret2
      exact ⟨9, by rw [hfin.out]; rfl, hrd, hgb, by rw [hfin.out]; simp⟩
end Go.Proofs.YtbfjageaheijbaaGreat
/- The reader's N and T, Over, and the copy of a text. -/
namespace Go.Proofs.YtbfjageaheijbaaGreat
open Go.RowKit

/-- The reader at block b, its bytes as a list. -/
def RdL (w : World) (b : Nat) (l : List UInt8) (e : Int) : Prop := Rd w b ⟨l.toArray⟩ e

set_option maxRecDepth 100000 in
theorem ba_of (r : ByteArray) : (⟨r.data.toList.toArray⟩ : ByteArray) = r := bytes_ext rfl
set_option maxRecDepth 100000 in
theorem rd_list {w : World} {b : Nat} {r : ByteArray} {e : Int} {l : List UInt8} (h : Rd w b r e) (hl : r.data.toList = l) : RdL w b l e := by
  subst hl
  unfold RdL
  rw [ba_of]
  exact h

/-- What N makes of bytes and an error: the number, the bytes left, the error. -/
def stepN (l : List UInt8) (e : Int) : Nat × List UInt8 × Int :=
  if e = 0 then (if (Leb.first l).2.2 = 0 then ((Leb.first l).1, l.drop (Leb.first l).2.1, 0) else (0, [], (Leb.first l).2.2)) else (0, l, e)

/-- What T makes of them: the text, the bytes left, the error. -/
def stepT (l : List UInt8) (e : Int) : List UInt8 × List UInt8 × Int :=
  if e = 0 then (if (Leb.second l).2.2 = 0 then ((Leb.second l).1, l.drop (Leb.second l).2.1, 0) else ([], [], (Leb.second l).2.2)) else ([], l, e)

set_option maxRecDepth 100000 in
theorem over_any (s : ByteArray) (w : World) :
    Calls Tryz.prog 58 #[.string s] w fun e w' => e = .returned (.pointer (some ⟨w.heap.size, 0, none⟩)) ∧ RdL w' w.heap.size s.data.toList 0 ∧ Below w.heap.size w w' := by
  have k := Lib.hid (Row.made w 138 #[.string s, .int .i64 0])
  go_enter Tryz.func58, Tryz.ntmps58
  go_wp2
  go_ret
  exact ⟨rfl, rd_list k.out rfl, (Below.refl _ _).alloc (Nat.le_refl _) _⟩

def NPost (w : World) (b : Nat) (n : Nat) (l : List UInt8) (e0 : Int) (e : Ending) (w' : World) : Prop :=
  e = .returned (.int .i64 n) ∧ RdL w' b l e0 ∧ w.grownBy w' (some b)

set_option maxRecDepth 100000 in
theorem n_any {w : World} {b : Nat} {l : List UInt8} {e0 : Int} (h : RdL w b l e0) (hm : l.length ≤ 281474976710656) :
    Calls Tryz.prog 88 #[.pointer (some ⟨b, 0, none⟩)] w (NPost w b (stepN l e0).1 (stepN l e0).2.1 (stepN l e0).2.2) := by
  by_cases he : e0 = 0
  · subst he
    have hz : ((0 : Int) != 0) = false := rfl
    have hnum : Calls Tryz.prog 111 #[.func (.func 112) #[.pointer (some ⟨b, 0, none⟩)] #[]] w (NumPost w b ⟨l.toArray⟩ 0) := number_any h (by rw [mk_size]; exact hm)
    have herr := err_any h
    have Herr := Lib.hid herr
    by_cases hf : (Leb.first l).2.2 = 0
    · have hs : stepN l 0 = ((Leb.first l).1, l.drop (Leb.first l).2.1, 0) := by simp [stepN, hf]
      have hnum2 : Calls Tryz.prog 111 #[.func (.func 112) #[.pointer (some ⟨b, 0, none⟩)] #[]] w
          fun e w' => e = .returned (.tuple #[.int .i64 (Leb.first l).1, .int .i64 0]) ∧ RdL w' b (l.drop (Leb.first l).2.1) 0 ∧ w.grownBy w' (some b) := by
        refine hnum.mono ?_
        rintro e w' ⟨j, rfl, h1, h2, h3⟩
        have hj : j = (Leb.first l).2.1 := h3 hf
        refine ⟨?_, rd_list h1 ?_, h2⟩
        · show Ending.returned (.tuple #[.int .i64 (Leb.first l).1, .int .i64 (Leb.first l).2.2]) = _
          rw [hf]
        · rw [cut_data, hj]
      rw [hs]
      have Hnum := Lib.hid hnum2
      generalize (Leb.first l).1 = n at *
      generalize l.drop (Leb.first l).2.1 = l1 at *
      clear hnum hnum2 hf hs h herr
      go_enter Tryz.func88, Tryz.ntmps88
      go_wp2_with (first
        | (go_at_call 61; refine (Herr.out).mono ?_; rintro e w' ⟨rfl, rfl⟩)
        | (go_at_call 111; refine (Hnum.out).mono ?_; rintro e w' ⟨rfl, h1, h2⟩))
      go_ret
      exact ⟨rfl, h1, h2⟩
    · have hs : stepN l 0 = (0, [], (Leb.first l).2.2) := by simp [stepN, hf]
      have hn0 : (Leb.first l).1 = 0 := by
        rcases (Leb.first_fits l).2.2.1 with h1 | h1
        · exact absurd h1 hf
        · exact h1.1
      have hnum2 : Calls Tryz.prog 111 #[.func (.func 112) #[.pointer (some ⟨b, 0, none⟩)] #[]] w
          fun e w' => e = .returned (.tuple #[.int .i64 0, .int .i64 (Leb.first l).2.2]) ∧ (∃ r, Rd w' b r 0) ∧ w.grownBy w' (some b) := by
        refine hnum.mono ?_
        rintro e w' ⟨j, rfl, h1, h2, _⟩
        refine ⟨?_, ⟨_, h1⟩, h2⟩
        show Ending.returned (.tuple #[.int .i64 (Leb.first l).1, .int .i64 (Leb.first l).2.2]) = _
        rw [hn0]; rfl
      rw [hs]
      have Hnum := Lib.hid hnum2
      have hne : ((Leb.first l).2.2 != 0) = true := by simp [hf]
      generalize (Leb.first l).2.2 = x at *
      clear hnum hnum2 hf hs h herr hn0
      go_enter Tryz.func88, Tryz.ntmps88
      go_wp2_with (first
        | (go_at_call 61; refine (Herr.out).mono ?_; rintro e w' ⟨rfl, rfl⟩)
        | (go_at_call 111; refine (Hnum.out).mono ?_; rintro e w' ⟨rfl, ⟨r1, h1⟩, h2⟩)
        | (go_at_call 110; refine (fail_any h1 _).mono ?_; rintro e w' ⟨rfl, h3, h4⟩))
      go_ret
      exact ⟨rfl, rd_list h3 rfl, gb_trans h2 h4⟩
  · have hs : stepN l e0 = (0, l, e0) := by simp [stepN, he]
    rw [hs]
    have hne : (e0 != 0) = true := by simp [he]
    clear he hs
    go_enter Tryz.func88, Tryz.ntmps88
    go_wp2_with (first | (go_at_call 61; refine (err_any h).mono ?_; rintro e w' ⟨rfl, rfl⟩))
    go_ret
    exact ⟨rfl, h, gb_refl _ _⟩

set_option maxRecDepth 100000 in
theorem n_nil (w : World) : Calls Tryz.prog 88 #[.pointer none] w fun e w' => e = .returned (.int .i64 0) ∧ w = w' := by
  go_enter Tryz.func88, Tryz.ntmps88
  go_wp2_with (first | (go_at_call 61; refine (err_nil _).mono ?_; rintro e w' ⟨rfl, rfl⟩))
  go_ret
  exact ⟨rfl, rfl⟩

set_option maxRecDepth 100000 in
theorem t_nil (w : World) : Calls Tryz.prog 87 #[.pointer none] w fun e w' => e = .returned (.string ⟨#[]⟩) ∧ w = w' := by
  go_enter Tryz.func87, Tryz.ntmps87
  go_wp2_with (first
    | (go_at_call 88; refine (n_nil _).mono ?_; rintro e w' ⟨rfl, rfl⟩)
    | (go_at_call 61; refine (err_nil _).mono ?_; rintro e w' ⟨rfl, rfl⟩))
  go_ret
  exact ⟨rfl, rfl⟩
end Go.Proofs.YtbfjageaheijbaaGreat
