/- What must come at any rate ('awake' of layer 10); the clauses that may be, of a filter that is not far too long. -/
import Derived.Test.YtajhmgbicliihaaGreatDoorCom7
import Derived.Test.YtajhmgbicliihaaGreatDoorCom10
import Derived.Sort.Walk0
set_option linter.unusedSimpArgs false
set_option linter.unusedVariables false
namespace Go.Proofs.YtajhmgbicliihaaGreatDoor
open Go.RowKit

def Cov.sane (f : List Flt.Cl) : List Flt.Cl := if Flt.light f then Flt.sane f else []
set_option maxRecDepth 100000 in
theorem Cov.sane_fine {f : List Flt.Cl} : (Cov.sane f).length ≤ 24 ∧ ∀ c ∈ Cov.sane f, Flt.Right c := by
  unfold Cov.sane
  by_cases h : Flt.light f
  · rw [if_pos h]
    exact ⟨Nat.le_trans (Flt.sane_len f) h.2, Flt.sane_right f⟩
  · rw [if_neg h]
    exact ⟨by simp, fun c hc => by cases hc⟩

set_option maxRecDepth 100000 in
theorem cov_sane {w : World} {F : Nat → Prop} {v : Value} {f : List Flt.Cl} (h : Cls w F v f) (hl : f.length ≤ 9223372036854775807) (hs : ∀ c ∈ f, c.pre.length ≤ 9223372036854775807) :
    Calls Tryz.prog 5 #[v] w fun e w' => ∃ v', e = .returned v' ∧ RowsOwn 39 3 clV w (Cov.sane f) v' w' := by
  have LI := Lib.hid (light_any h hl hs)
  by_cases hlf : Flt.light f
  · have LI : Hid (Calls Tryz.prog 17 #[v] w fun e w' => e = .returned (.bool true) ∧ Below w.heap.size w w') := Lib.hid (by have := LI.out; rwa [decide_eq_true hlf] at this)
    have SA := Lib.hid (fun (W : World) (hW : Below w.heap.size w W) => sane_any (h.below hW) (by have := hlf.2; omega) (fun c hc => by have := hlf.1 c hc; omega))
    have e0 : Hid (Cov.sane f = Flt.sane f) := Lib.hid (if_pos hlf)
    clear h hlf hl hs
    go_enter Tryz.func5, Tryz.ntmps5
    go_wp2_with fail
    refine (LI.out).mono ?_
    rintro e w1 ⟨rfl, hb1⟩
    have K1 := Lib.hid hb1
    clear hb1
    go_wp2_with fail
    refine (SA.out _ K1.out).mono ?_
    rintro e w2 ⟨x, rfl, hx⟩
    have HX := Lib.hid (hx.since K1.out)
    clear hx
    go_wp2_with fail
    go_ret
    exact ⟨_, rfl, by rw [e0.out]; exact HX.out⟩
  · have LI : Hid (Calls Tryz.prog 17 #[v] w fun e w' => e = .returned (.bool false) ∧ Below w.heap.size w w') := Lib.hid (by have := LI.out; rwa [decide_eq_false hlf] at this)
    have e0 : Hid (Cov.sane f = []) := Lib.hid (if_neg hlf)
    clear h hlf hl hs
    go_enter Tryz.func5, Tryz.ntmps5
    go_wp2_with fail
    refine (LI.out).mono ?_
    rintro e w1 ⟨rfl, hb1⟩
    have K1 := Lib.hid hb1
    clear hb1
    go_wp2_with fail
    go_ret
    exact ⟨_, rfl, by rw [e0.out]; exact RowsOwn.first K1.out⟩

/-! ### Awake -/
set_option maxRecDepth 100000 in
theorem cov_clause (p : ByteArray) (lo hi : Int) (w : World) : Calls Tryz.prog 24 #[.string p, .int .i64 lo, .int .i64 hi] w fun e w' => e = .returned (.agg #[.string p, .int .i64 lo, .int .i64 hi]) ∧ Below w.heap.size w w' := by
  have B0 : Below w.heap.size w (w.alloc (.cells #[.string p, .int .i64 lo, .int .i64 hi] 39)) := (Below.refl _ _).alloc (Nat.le_refl _) _
  have HB0 := Lib.hid B0
  have Hsz : Hid ((Tryz.prog.info? 39).map (·.size) = some 3) := Lib.hid (by kernel_rfl)
  clear B0
  go_enter Tryz.func24, Tryz.ntmps24
  go_wp2_with fail
  exact bodyPost_ret (v := .agg #[.string p, .int .i64 lo, .int .i64 hi]) (results_cell_row (by rfl) _ _ w.heap.size 39 _ (0, 0) _ (by rfl) (heap_alloc_new w _) Tryz.underlying39 rfl Hsz.out) rfl ⟨rfl, HB0.out⟩

set_option maxRecDepth 100000 in
set_option maxHeartbeats 3200000 in
theorem cov_awake (H : CoverOk) (w : World) : Calls Tryz.prog 9 #[] w fun e w' => e = .returned (.bool true) ∧ Below w.heap.size w w' := by
  have CC := Lib.hid cov_clause
  have hm : Cov.two 1 Cov.awF Cov.awG = Cov.awG := by decide +kernel
  have s1 : decide (Cov.Subs Cov.awF Cov.awG) = true := by decide +kernel
  have s2 : decide (Cov.Subs Cov.awG Cov.awF) = false := by decide +kernel
  have WI : Hid (∀ (P Q : Nat → Prop) (W : World) (x y : Value), Cls W P x Cov.awG → Cls W Q y Cov.awF → Calls Tryz.prog 25 #[x, y] W fun e w' => e = .returned (.tuple #[.agg #[.string ⟨#[97]⟩, .int .i64 0, .bool false], .bool true]) ∧ Below W.heap.size W w') := Lib.hid (fun P Q W x y hx hy => H.wit hx hy)
  have S1 : Hid (∀ (P Q : Nat → Prop) (W : World) (x y : Value), Cls W P x Cov.awF → Cls W Q y Cov.awG → Calls Tryz.prog 14 #[x, y] W fun e w' => e = .returned (.bool true) ∧ Below W.heap.size W w') := Lib.hid (fun P Q W x y hx hy => by
    have := H.subs hx hy Cov.awF_ok Cov.awG_ok
    rwa [s1] at this)
  have S2 : Hid (∀ (P Q : Nat → Prop) (W : World) (x y : Value), Cls W P x Cov.awG → Cls W Q y Cov.awF → Calls Tryz.prog 14 #[x, y] W fun e w' => e = .returned (.bool false) ∧ Below W.heap.size W w') := Lib.hid (fun P Q W x y hx hy => by
    have := H.subs hx hy Cov.awG_ok Cov.awF_ok
    rwa [s2] at this)
  have ME : Hid (∀ (P Q : Nat → Prop) (W : World) (x y : Value), Cls W P x Cov.awF → Cls W Q y Cov.awG → Calls Tryz.prog 6 #[x, y] W fun e w' => ∃ v', e = .returned v' ∧ Cls w' (NewIn W w') v' Cov.awG ∧ Below W.heap.size W w') := Lib.hid (fun P Q W x y hx hy => by
    have := H.meet hx hy Cov.awF_ok Cov.awG_ok (by decide +kernel)
    rwa [hm] at this)
  have EQ : Hid (∀ (P Q : Nat → Prop) (W : World) (x y : Value), Cls W P x Cov.awG → Cls W Q y Cov.awG → Calls Tryz.prog 10 #[x, y] W fun e w' => e = .returned (.bool true) ∧ Below W.heap.size W w') := Lib.hid (fun P Q W x y hx hy => by
    have := ref_fequal hx hy (by decide) (by decide)
    rwa [decide_eq_true (rfl : Cov.awG = Cov.awG)] at this)
  have MA := Lib.hid (fun (W : World) (p : List UInt8) (lo hi : Int) => cl_made W 39 p lo hi)
  clear hm s1 s2
  go_enter Tryz.func9, Tryz.ntmps9
  go_wp2_with fail
  refine (CC.out _ _ _ _).mono ?_
  rintro e w1 ⟨rfl, b1⟩
  have K1 := Lib.hid b1
  clear b1
  go_wp2_with fail
  refine (CC.out _ _ _ _).mono ?_
  rintro e w2 ⟨rfl, b2⟩
  have M1 := (MA.out w1 [97] 0 9).below b2
  have HA2 : Below w2.heap.size w2 (w2.alloc (.cells #[.string (mk [97, 47, 98]), .int .i64 3, .int .i64 4] 39)) := (Below.refl _ _).alloc (Nat.le_refl _) _
  have PP : Hid (∀ W, Below (w2.alloc (.cells #[.string (mk [97, 47, 98]), .int .i64 3, .int .i64 4] 39)).heap.size (w2.alloc (.cells #[.string (mk [97, 47, 98]), .int .i64 3, .int .i64 4] 39)) W → Cls W (fun i => i = w1.heap.size) (.slice (some ⟨w1.heap.size, 0, none⟩) 1 1) Cov.awF ∧ Cls W (fun i => i = w2.heap.size) (.slice (some ⟨w2.heap.size, 0, none⟩) 1 1) Cov.awG) := Lib.hid (fun W hW => ⟨(M1.below HA2).below hW, (MA.out w2 [97, 47, 98] 3 4).below hW⟩)
  have K2 : Hid (Below w.heap.size w (w2.alloc (.cells #[.string (mk [97, 47, 98]), .int .i64 3, .int .i64 4] 39))) := Lib.hid (by
    have k := K1.out.alloc K1.out.size (.cells #[.string (mk [97]), .int .i64 0, .int .i64 9] 39)
    have k2 := k.trans (b2.mono k.size)
    exact k2.alloc k2.size _)
  clear b2 M1 HA2
  go_wp2_with fail
  refine (WI.out _ _ _ _ _ (PP.out _ (Below.refl _ _)).2 (PP.out _ (Below.refl _ _)).1).mono ?_
  rintro e w3 ⟨rfl, b3⟩
  have XA := Lib.hid (Row.made w3 24 #[.string ⟨#[97]⟩, .int .i64 0, .bool false])
  have J3 := Lib.hid (b3.alloc b3.size (.cells #[.string ⟨#[97]⟩, .int .i64 0, .bool false] 24))
  clear b3
  go_wp2_with fail
  refine (S1.out _ _ _ _ _ (PP.out _ J3.out).1 (PP.out _ J3.out).2).mono ?_
  rintro e w4 ⟨rfl, b4⟩
  have J4 := Lib.hid (J3.out.trans (b4.mono J3.out.size))
  go_wp2_with fail
  refine (S2.out _ _ _ _ _ (PP.out _ J4.out).2 (PP.out _ J4.out).1).mono ?_
  rintro e w5 ⟨rfl, b5⟩
  have J5 := Lib.hid (J4.out.trans (b5.mono J4.out.size))
  have hz : w3.heap.size < (w3.alloc (.cells #[.string ⟨#[97]⟩, .int .i64 0, .bool false] 24)).heap.size := by simp
  have b45 := b4.trans (b5.mono b4.size)
  have d0 := (b45.cell (p := ⟨w3.heap.size, 0, none⟩) hz).trans (XA.out.at 0)
  have d1 := (b45.cell (p := ⟨w3.heap.size, 1, none⟩) hz).trans (XA.out.at 1)
  have d2 := (b45.cell (p := ⟨w3.heap.size, 2, none⟩) hz).trans (XA.out.at 2)
  clear b4 b5 b45 hz
  go_wp2_with fail
  refine (ME.out _ _ _ _ _ (PP.out _ J5.out).1 (PP.out _ J5.out).2).mono ?_
  rintro e w6 ⟨mv, rfl, hmv, b6⟩
  have J6 := Lib.hid (J5.out.trans (b6.mono J5.out.size))
  have HM := Lib.hid hmv
  clear b6 hmv
  go_wp2_with fail
  refine (EQ.out _ _ _ _ _ HM.out (PP.out _ J6.out).2).mono ?_
  rintro e w7 ⟨rfl, b7⟩
  have J7 := Lib.hid (J6.out.trans (b7.mono J6.out.size))
  clear b7
  go_wp2_with fail
  go_ret
  exact ⟨rfl, K2.out.trans (J7.out.mono K2.out.size)⟩
end Go.Proofs.YtajhmgbicliihaaGreatDoor
/- The document's own answers of layer 9: Prefixes. -/
set_option linter.unusedSimpArgs false
set_option linter.unusedVariables false
namespace Go.Proofs.YtajhmgbicliihaaGreatDoor
open Go.RowKit

def txV (t : List UInt8) : List Value := [.string (mk t)]
set_option maxRecDepth 100000 in
theorem tx_one (t : List UInt8) : ∀ u ∈ txV t, u.oneCell' = true := by intro u hu; unfold txV at hu; rw [List.mem_singleton.1 hu]; rfl
abbrev Txs (w : World) (F : Nat → Prop) (v : Value) (l : List (List UInt8)) : Prop := Rws 1 txV w F v l
set_option maxRecDepth 100000 in
theorem txs_flat (l : List (List UInt8)) : l.flatMap txV = texts l := by
  unfold texts
  induction l with
  | nil => rfl
  | cons x l ih => rw [List.flatMap_cons, ih]; rfl
set_option maxRecDepth 100000 in
theorem Txs.cells {w : World} {F : Nat → Prop} {v : Value} {l : List (List UInt8)} (h : Txs w F v l) : Cells w F v (texts l) := by
  obtain ⟨A, c, rfl, hc, hat⟩ := h
  refine ⟨A, c, by rw [texts_len], by rw [texts_len]; exact hc, fun hp => ?_⟩
  rw [texts_len] at hp
  obtain ⟨b, o, rfl, h1, h2, h3⟩ := hat hp
  refine ⟨b, o, rfl, h1, h2, fun i u hu => ?_⟩
  unfold texts at hu
  rw [List.getElem?_map] at hu
  cases hx : l[i]? with
  | none => rw [hx] at hu; cases hu
  | some x =>
    rw [hx] at hu
    have := h3 i x hx 0 u (by simpa [txV] using hu)
    rw [Nat.mul_one] at this
    exact this
set_option maxRecDepth 100000 in
theorem Txs.at {w : World} {F : Nat → Prop} {b o : Nat} {n cap : Nat} {l : List (List UInt8)} (h : Txs w F (.slice (some ⟨b, o, none⟩) n cap) l) {i : Nat} {x : List UInt8} (hx : l[i]? = some x) : w.cell? ⟨b, o + i, none⟩ = some (.string (mk x)) := by
  obtain ⟨A, c, e, -, hat⟩ := h
  injection e with e1 e2 e3
  obtain ⟨b', o', e, -, -, hc⟩ := hat (by obtain ⟨hl, _⟩ := List.getElem?_eq_some_iff.1 hx; omega)
  rw [e] at e1
  injection e1 with e1
  injection e1 with e1 e2
  subst e1 e2
  have := hc i x hx 0 _ rfl
  rwa [Nat.mul_one] at this
set_option maxRecDepth 100000 in
theorem tx_made (w : World) (t : TypeId) (p : List UInt8) : Txs (w.alloc (.cells #[.string (mk p)] t)) (fun i => i = w.heap.size) (.slice (some ⟨w.heap.size, 0, none⟩) 1 1) [p] := by
  refine ⟨_, 1, rfl, Nat.le_refl _, fun _ => ⟨w.heap.size, 0, rfl, rfl, by simp, fun i x hx j u hu => ?_⟩⟩
  rw [(Row.made w _ _).at, Nat.zero_add]
  match i, hx with
  | 0, hx =>
    injection hx with hx
    subst hx
    match j, hu with
    | 0, hu => simpa [txV] using hu

set_option maxRecDepth 100000 in
theorem ins_cut : ∀ (l : List Flt.Tx) (k : Flt.Tx) (n : Nat), (∀ j x, j < n → l[j]? = some x → x < k) → (∀ x, l[n]? = some x → ¬ x < k) → n ≤ l.length → l.takeWhile (fun q => decide (q < k)) = l.take n ∧ l.dropWhile (fun q => decide (q < k)) = l.drop n
  | [], k, n, _, _, hn => by
    have : n = 0 := by simpa using hn
    subst this
    exact ⟨rfl, rfl⟩
  | y :: l, k, 0, _, h2, _ => by
    have hy := h2 y rfl
    exact ⟨by rw [List.takeWhile_cons, if_neg (by simpa using hy)]; rfl, by rw [List.dropWhile_cons, if_neg (by simpa using hy)]; rfl⟩
  | y :: l, k, n + 1, h1, h2, hn => by
    have hy := h1 0 y (by omega) rfl
    obtain ⟨r1, r2⟩ := ins_cut l k n (fun j x hj hx => h1 (j + 1) x (by omega) (by simpa using hx)) (fun x hx => h2 x (by simpa using hx)) (by simpa using hn)
    exact ⟨by rw [List.takeWhile_cons, if_pos (by simpa using hy), r1]; rfl, by rw [List.dropWhile_cons, if_pos (by simpa using hy), r2]; rfl⟩
set_option maxRecDepth 100000 in
theorem Flt.ins_at {l : List Flt.Tx} {k : Flt.Tx} {n : Nat} (h1 : ∀ j x, j < n → l[j]? = some x → x < k) (h2 : ∀ x, l[n]? = some x → ¬ x < k) (hn : n ≤ l.length) : Flt.ins l k = if l[n]? = some k then l else l.take n ++ [k] ++ l.drop n := by
  obtain ⟨r1, r2⟩ := ins_cut l k n h1 h2 hn
  unfold Flt.ins
  rw [r1, r2, List.head?_drop]
  simp
set_option maxRecDepth 100000 in
theorem Flt.prefixes_take {f : List Flt.Cl} {n : Nat} {c : Flt.Cl} (hc : f[n]? = some c) : Flt.prefixes (f.take (n + 1)) = Flt.ins (Flt.prefixes (f.take n)) c.pre := by
  obtain ⟨hl, he⟩ := List.getElem?_eq_some_iff.1 hc
  rw [List.take_succ_eq_append_getElem hl, he]
  unfold Flt.prefixes
  rw [List.foldl_append]
  rfl

section
variable {α : Type} {t k : Nat} {f : α → List Value} {w wr w2 : World} {l m : List α} {v v' : Value} {o : Obj}
set_option maxRecDepth 100000 in
theorem RowsOwn.front (hg : (wr.alloc o).grownBy w2 (Value.slice (some ⟨wr.heap.size, 0, none⟩) 0 0).ownBlock) (hown : w2.ownsRow wr.heap.size t k v (0 + l.length) ([] ++ l.flatMap f)) : RowsOwn t k f wr l v w2 := by
  refine ⟨by simpa using hown, ((Below.refl wr.heap.size wr).alloc (Nat.le_refl _) o).grown hg (by simp) (fun k hk => ?_)⟩
  have : wr.heap.size = k := by simpa [Value.ownBlock] using hk
  omega
set_option maxRecDepth 100000 in
theorem RowsOwn.rest (h : RowsOwn t k f w l v wr) (hg : wr.grownBy w2 v.ownBlock) (hown : w2.ownsRow w.heap.size t k v' (l.length + m.length) (l.flatMap f ++ m.flatMap f)) : RowsOwn t k f w (l ++ m) v' w2 :=
  ⟨by rw [List.length_append, List.flatMap_append]; exact hown, h.2.grown hg h.2.size (fun k hk => (h.1.lt k hk).1)⟩
end

set_option maxRecDepth 100000 in
set_option maxHeartbeats 6400000 in
theorem ref_prefixes {w : World} {F : Nat → Prop} {v : Value} {f : List Flt.Cl} (h : Cls w F v f) (hl : f.length ≤ 1000000) :
    Calls Tryz.prog 26 #[v] w fun e w' => ∃ v', e = .returned v' ∧ RowsOwn 9 1 txV w (Flt.prefixes f) v' w' := by
  obtain ⟨A, cap, rfl, hcap⟩ := h.parts
  obtain ⟨i0, hi0, hz0, hz1, hz2⟩ := info_parts strInfo
  have H := Lib.hid h
  have hl' : (f.length : Int) ≤ 1000000 := by omega
  clear h
  go_enter Tryz.func26, Tryz.ntmps26
  go_wp2_with fail
  go_loopw [3, 4, 5, 6, 7] (fun out i _ _ _ wr => ∃ n : Nat, n ≤ f.length ∧ i = .int .i64 (n : Int) ∧ RowsOwn 9 1 txV w (Flt.prefixes (f.take n)) out wr) (fun _ i _ _ _ _ => f.length - (intOf i).toNat)
  case atStart => exact ⟨0, Nat.zero_le _, rfl, RowsOwn.start _ _ _ w⟩
  case round =>
    obtain ⟨n, hn, rfl, hown⟩ := hrel
    by_cases hlt : n < f.length
    · obtain ⟨b, o, cap', e, -, -, hb⟩ := H.out.block (by omega)
      injection e with e1 e2 e3
      subst e1 e3
      clear e2
      obtain ⟨x, hx⟩ : ∃ x, f[n]? = some x := ⟨_, List.getElem?_eq_getElem hlt⟩
      have hn0 : (0 : Int) ≤ (n : Int) := by omega
      have hn1 : (n : Int) < (f.length : Int) := by omega
      have CA : Hid (∀ W, Below w.heap.size w W → W.cell? ⟨b, o + n * 3, none⟩ = some (.string (mk x.pre)) ∧ W.cell? ⟨b, o + n * 3 + 1, none⟩ = some (.int .i64 x.lo) ∧ W.cell? ⟨b, o + n * 3 + 2, none⟩ = some (.int .i64 x.hi)) := Lib.hid (fun W hW => Cls.at (H.out.below hW) hx)
      obtain ⟨c0, -, -⟩ := CA.out wr hown.2
      have hst := Lib.hid (Flt.prefixes_take hx)
      have hlen : (Flt.prefixes (f.take n)).length ≤ n := Nat.le_trans (Flt.prefixes_len _) (Flt.len_take f)
      obtain ⟨p, x1, x2⟩ := x
      simp only at c0
      have hst : Hid (Flt.prefixes (f.take (n + 1)) = Flt.ins (Flt.prefixes (f.take n)) p) := hst
      clear CA hx
      generalize Flt.prefixes (f.take n) = D at *
      have Hn : Hid (n ≤ f.length) := Lib.hid hn
      have hDl : (D.length : Int) ≤ 1000000 := by omega
      have Hdl := Lib.hid hlen
      have Hmd := Lib.hid (fun W => tx_made W 9 p)
      have hbel1 := hown.2
      have Hbel := Lib.hid hbel1
      have h0own : (wr.alloc (.cells #[] 9)).ownsRow wr.heap.size 9 1 (.slice (some ⟨wr.heap.size, 0, none⟩) 0 0) 0 [] := World.ownsRow_made wr #[] 0 (Nat.le_refl _) (by decide) rfl
      rcases hown.1.2 with ⟨rfl, h0⟩ | ⟨g, cap2, cur, rfl, hg0, hgb, hgc, -, -, -⟩
      · have hD0 : D = [] := List.eq_nil_of_length_eq_zero h0
        subst hD0
        have hfin : Hid (Flt.prefixes (f.take (n + 1)) = [] ++ [p] ++ []) := Lib.hid (by rw [hst.out]; rfl)
        have Hfront : Txs (wr.alloc (.cells #[] 9)) (fun _ => False) (.slice none 0 0) [] := Rws.none _ _ _
        have Htl : Hid (([] : List Flt.Tx).length = 0) := Lib.hid rfl
        have Hbl : Hid (([] : List Flt.Tx).length = 0) := Lib.hid rfl
        clear hown h0 hst hbel1
        generalize hps : mk p = ps at *
        have Hps := Lib.hid hps
        clear hps
        go_wp2_with fail
        refine wp_loop_rounds 1 ?_
        rw [rounds_succ]
        go_wp2_with (first
          | (at_builtin; refine wp_joins (f := txV) (k := 1) rfl _ _ 46 rfl wr.heap.size 9 i0 (.string ⟨#[]⟩) 16 Tryz.underlying46 hi0 hz0 hz1 hz2 rfl (by decide) rfl rfl F3o (Rws.none (k := 1) (f := txV) _ (fun _ => False) 0) (fun _ _ => rfl) (fun x _ => tx_one x) ?b1 ?b2 ?b3 ?_; (case b1 => (have := Htl.out; have := Hbl.out; simp only [List.length_append, List.length_cons, List.length_nil]; unfold maxLen; omega)); (case b2 => (have := Htl.out; have := Hbl.out; simp only [List.length_append, List.length_cons, List.length_nil]; omega)); (case b3 => omega); intro v4 w4 own4 hg4 _)
          | (at_builtin; refine wp_joins (f := txV) (k := 1) rfl _ _ 46 rfl wr.heap.size 9 i0 (.string ⟨#[]⟩) 16 Tryz.underlying46 hi0 hz0 hz1 hz2 rfl (by decide) rfl rfl (F2o.alloc _) (Hmd.out _) (fun _ _ => rfl) (fun x _ => tx_one x) ?c1 ?c2 ?c3 ?_; (case c1 => (have := Htl.out; simp only [List.length_cons, List.length_nil]; unfold maxLen; omega)); (case c2 => (have := Htl.out; simp only [List.length_cons, List.length_nil]; omega)); (case c3 => (first | omega | (simp; omega))); intro v3 w3 own3 hg3 _; have F3 := F2.more (x := p) (v' := v3) (by simpa [txV, Hps.out] using own3) hg3; have hs3 := F3.2.size; have F3o := F3.1)
          | (at_builtin; refine wp_joins (f := txV) (k := 1) rfl _ _ 46 rfl wr.heap.size 9 i0 (.string ⟨#[]⟩) 16 Tryz.underlying46 hi0 hz0 hz1 hz2 rfl (by decide) rfl rfl h0own Hfront (fun _ _ => rfl) (fun x _ => tx_one x) ?a1 ?a2 ?a3 ?_; (case a1 => (have := Htl.out; unfold maxLen; first | omega | (simp <;> omega))); (case a2 => (have := Htl.out; first | omega | (simp <;> omega))); (case a3 => simp); intro v2 w2 own2 hg2 _; have F2 := RowsOwn.front hg2 own2; have hs2 := F2.2.size; have F2o := F2.1))
        have F4 := F3.rest hg4 own4
        exact ⟨⟨n + 1, by omega, by go_num, by rw [hfin.out]; exact F4.since Hbel.out⟩, by show f.length - ((n : Int) + 1).toNat < f.length - (n : Int).toNat; omega⟩
      · have Hown := Lib.hid hown
        have hgl : g < wr.heap.size := lt_of_block hgb
        clear hown hgb hbel1
        obtain ⟨W, rfl⟩ : ∃ W : World, W = wr := ⟨_, rfl⟩
        go_wp2_with fail
        go_loopw [6] (fun i w7 => ∃ k : Nat, k ≤ D.length ∧ i = .int .i64 (k : Int) ∧ (∀ j x, j < k → D[j]? = some x → x < p) ∧ w7 = W) (fun i _ => D.length - (intOf i).toNat)
        case atStart => exact ⟨0, Nat.zero_le _, rfl, (fun j x hj => absurd hj (by omega)), rfl⟩
        case round =>
          obtain ⟨k, hk, rfl, hlow, rfl⟩ := hrel
          have hk0 : (0 : Int) ≤ (k : Int) := by omega
          have hkD : (k : Int) ≤ (D.length : Int) := by omega
          have Hlow := Lib.hid hlow
          clear hlow
          by_cases hgo : ∃ x, D[k]? = some x ∧ x < p
          · obtain ⟨x, hx, hxp⟩ := hgo
            have hlt2 : k < D.length := by obtain ⟨h, _⟩ := List.getElem?_eq_some_iff.1 hx; exact h
            have hk1 : (k : Int) < (D.length : Int) := by omega
            have d0 := Txs.at (Hown.out.rows (fun _ _ => rfl)) hx
            rw [Nat.zero_add] at d0
            have hb1 : Op.bytesLess (mk x).toList (mk p).toList = true := by rw [Proofs.bytesLess_eq, Lib.toList_data, Lib.toList_data]; exact decide_eq_true hxp
            have Hx := Lib.hid hx
            have Hk := Lib.hid hxp
            clear hx hxp Hmd
            generalize mk x = xs at *
            generalize mk p = ps at *
            go_wp2_with fail
            refine ⟨⟨k + 1, by omega, by go_num, fun j y hj hy => ?_, by first | rfl | trivial⟩, ?_⟩
            · by_cases e : j = k
              · rw [e, Hx.out] at hy
                injection hy with hy
                rw [← hy]; exact Hk.out
              · exact Hlow.out j y (by omega) hy
            · show D.length - ((k : Int) + 1).toNat < D.length - (k : Int).toNat
              omega
          · have hins := Lib.hid (Flt.ins_at (n := k) Hlow.out (fun y hy hk => hgo ⟨y, hy, hk⟩) hk)
            by_cases hsame : D[k]? = some p
            · have hlt2 : k < D.length := by obtain ⟨h, _⟩ := List.getElem?_eq_some_iff.1 hsame; exact h
              have hk1 : (k : Int) < (D.length : Int) := by omega
              have hkne : ¬ (k : Int) = (D.length : Int) := by omega
              have d0 := Txs.at (Hown.out.rows (fun _ _ => rfl)) hsame
              rw [Nat.zero_add] at d0
              have hb1 : Op.bytesLess (mk p).toList (mk p).toList = false := by rw [Proofs.bytesLess_eq]; exact decide_eq_false (List.lt_irrefl _)
              have es : ((mk p).toList == (mk p).toList) = true := beq_self_eq_true _
              have hfin : Hid (Flt.prefixes (f.take (n + 1)) = D) := Lib.hid (by rw [hst.out, hins.out, if_pos hsame])
              clear hins hgo hsame hst Hmd
              generalize mk p = ps at *
              go_wp2_with fail
              exact ⟨⟨n + 1, by have := Hn.out; omega, by go_num, by rw [hfin.out]; exact Hown.out⟩, by show f.length - ((n : Int) + 1).toNat < f.length - (n : Int).toNat; omega⟩
            · have hcase : (∃ x1, wr.cell? ⟨g, k, none⟩ = some (.string x1) ∧ Op.bytesLess x1.toList (mk p).toList = false ∧ (x1.toList == (mk p).toList) = false ∧ (k : Int) < (D.length : Int) ∧ ¬ (k : Int) = (D.length : Int)) ∨ k = D.length := by
                by_cases hlt2 : k < D.length
                · obtain ⟨x, hx⟩ : ∃ x, D[k]? = some x := ⟨_, List.getElem?_eq_getElem hlt2⟩
                  have d0 := Txs.at (Hown.out.rows (fun _ _ => rfl)) hx
                  rw [Nat.zero_add] at d0
                  exact Or.inl ⟨_, d0, by rw [Proofs.bytesLess_eq, Lib.toList_data, Lib.toList_data]; exact decide_eq_false (fun h => hgo ⟨x, hx, h⟩), by rw [str_same]; exact decide_eq_false (fun e => hsame (by rw [hx, e])), by omega, by omega⟩
                · exact Or.inr (by omega)
              have hfin : Hid (Flt.prefixes (f.take (n + 1)) = D.take k ++ [p] ++ D.drop k) := Lib.hid (by rw [hst.out, hins.out, if_neg hsame])
              have Hfront : Txs (wr.alloc (.cells #[] 9)) (NewIn w (wr.alloc (.cells #[] 9))) (.slice (some ⟨g, 0, none⟩) k cap2) (D.take k) := by
                have hb' : Below wr.heap.size wr (wr.alloc (.cells #[] 9)) := (Below.refl _ _).alloc (Nat.le_refl _) _
                have := ((Hown.out.rows (fun _ _ => rfl)).below hb').take rfl k hk cap2 (by omega)
                exact this.mono (fun i hi => ⟨hi.1, Nat.lt_of_lt_of_le hi.2 hb'.size⟩)
              have Htl : Hid ((D.take k).length = k) := Lib.hid (by rw [List.length_take]; omega)
              have Hback : Hid (∀ w', Below wr.heap.size wr w' → Txs w' (NewIn w w') (.slice (some ⟨g, k, none⟩) (D.length - k) (cap2 - k)) (D.drop k)) := Lib.hid (fun w' hw' => by
                have := ((Hown.out.rows (fun _ _ => rfl)).below hw').drop rfl k hk (cap2 - k) (by omega)
                rw [Nat.zero_add, Nat.mul_one] at this
                exact this.mono (fun i hi => ⟨hi.1, Nat.lt_of_lt_of_le hi.2 hw'.size⟩))
              have Hzero : Hid (k = D.length → ∀ A c w', Txs w' (NewIn w w') (.slice A 0 c) (D.drop k)) := Lib.hid (fun hh A c w' => by
                rw [List.drop_of_length_le (by omega)]
                exact Rws.empty _ _ _ _)
              have Hbl : Hid ((D.drop k).length = D.length - k) := Lib.hid List.length_drop
              clear hins hgo hsame hst
              generalize hps : mk p = ps at *
              have Hps := Lib.hid hps
              clear hps
              rcases hcase with ⟨x1, d0, hb1, es, hk1, hkne⟩ | rfl
              all_goals
                go_wp2_with (first
                  | (at_builtin; refine wp_joins (f := txV) (k := 1) rfl _ _ 46 rfl wr.heap.size 9 i0 (.string ⟨#[]⟩) 16 Tryz.underlying46 hi0 hz0 hz1 hz2 rfl (by decide) rfl rfl F3o (Hback.out _ F3.2) (fun _ _ => rfl) (fun x _ => tx_one x) ?b1 ?b2 ?b3 ?_; (case b1 => (have := Htl.out; have := Hbl.out; simp only [List.length_append, List.length_cons, List.length_nil]; unfold maxLen; omega)); (case b2 => (have := Htl.out; have := Hbl.out; simp only [List.length_append, List.length_cons, List.length_nil]; omega)); (case b3 => omega); intro v4 w4 own4 hg4 _)
                  | (at_builtin; refine wp_joins (f := txV) (k := 1) rfl _ _ 46 rfl wr.heap.size 9 i0 (.string ⟨#[]⟩) 16 Tryz.underlying46 hi0 hz0 hz1 hz2 rfl (by decide) rfl rfl F3o (Hzero.out rfl _ _ _) (fun _ _ => rfl) (fun x _ => tx_one x) ?b1 ?b2 ?b3 ?_; (case b1 => (have := Htl.out; have := Hbl.out; simp only [List.length_append, List.length_cons, List.length_nil]; unfold maxLen; omega)); (case b2 => (have := Htl.out; have := Hbl.out; simp only [List.length_append, List.length_cons, List.length_nil]; omega)); (case b3 => omega); intro v4 w4 own4 hg4 _)
                  | (at_builtin; refine wp_joins (f := txV) (k := 1) rfl _ _ 46 rfl wr.heap.size 9 i0 (.string ⟨#[]⟩) 16 Tryz.underlying46 hi0 hz0 hz1 hz2 rfl (by decide) rfl rfl (F2o.alloc _) (Hmd.out _) (fun _ _ => rfl) (fun x _ => tx_one x) ?c1 ?c2 ?c3 ?_; (case c1 => (have := Htl.out; simp only [List.length_cons, List.length_nil]; unfold maxLen; omega)); (case c2 => (have := Htl.out; simp only [List.length_cons, List.length_nil]; omega)); (case c3 => (first | omega | (simp; omega))); intro v3 w3 own3 hg3 _; have F3 := F2.more (x := p) (v' := v3) (by simpa [txV, Hps.out] using own3) hg3; have hs3 := F3.2.size; have F3o := F3.1)
                  | (at_builtin; refine wp_joins (f := txV) (k := 1) rfl _ _ 46 rfl wr.heap.size 9 i0 (.string ⟨#[]⟩) 16 Tryz.underlying46 hi0 hz0 hz1 hz2 rfl (by decide) rfl rfl h0own Hfront (fun _ _ => rfl) (fun x _ => tx_one x) ?a1 ?a2 ?a3 ?_; (case a1 => (have := Htl.out; unfold maxLen; first | omega | (simp <;> omega))); (case a2 => (have := Htl.out; first | omega | (simp <;> omega))); (case a3 => simp); intro v2 w2 own2 hg2 _; have F2 := RowsOwn.front hg2 own2; have hs2 := F2.2.size; have F2o := F2.1))
                all_goals
                  have F4 := F3.rest hg4 own4
                  exact ⟨⟨n + 1, by have := Hn.out; omega, by go_num, by rw [hfin.out]; exact F4.since Hbel.out⟩, by show f.length - ((n : Int) + 1).toNat < f.length - (n : Int).toNat; omega⟩
    · obtain rfl : n = f.length := by omega
      rw [List.take_length] at hown
      have Hown := Lib.hid hown
      clear hown
      go_wp2_with fail
      go_ret
      exact ⟨_, rfl, Hown.out⟩
end Go.Proofs.YtajhmgbicliihaaGreatDoor
