/- Of each item the newest update, if a filter matches it: UpdateViews's statement holds. -/
import Derived.Test.YtgpeobmaneponaaCom12
import Derived.Test.YtgpeobmaneponaaCom16
set_option maxRecDepth 100000
set_option linter.unusedVariables false
set_option linter.unusedSimpArgs false
set_option maxHeartbeats 12800000
namespace Go.Proofs.Ytgpeobmaneponaa
open List renaming getElem_toArray → z1, getElem_cons_zero → z2, getElem_cons_succ → z3, setIfInBounds_toArray → z4, set_cons_zero → z5, set_cons_succ → z6
open Go.RowKit Go.Sort
theorem Upd.few_bd {l : List Upd.U} (h : ∀ u ∈ l, Upd.In u) : (Upd.few l).length ≤ 30 ∧ ∀ u ∈ Upd.few l, Upd.Bd u :=
 ⟨Nat.le_trans (List.length_filter_le _ _) (by rw [List.length_take]; omega), fun u hu => Upd.light_bd (h u (List.mem_of_mem_take (List.mem_filter.1 hu).1)) (of_decide_eq_true (List.mem_filter.1 hu).2)⟩
theorem uviews_walk (O : UpdateOk) (Z : FilterOk) {w : World} {v fv : Value} {l : List Upd.U} {f : List Flt.Cl} {item : Ver.V} (hl : Ups w (fun i => i < w.heap.size) v l) (l63 : l.length ≤ 9223372036854775807) (hul : ∀ u ∈ l, Upd.In u) (hf : Cls w (fun i => i < w.heap.size) fv f) (lf : f.length ≤ 9223372036854775807) (bf : ∀ c ∈ f, c.pre.length ≤ 9223372036854775807 ∧ Bd (Flt.rg c)) (hx : Ver.Bd item) :
  Calls Try.prog 5 #[v, fv, verA item] w fun e w' => e = .returned (.bool true) ∧ Below w.heap.size w w' := by
 have mixed : Try.prog.follows .mixedOrders = true := by kernel_rfl
 have AW := Lib.hid (fun W => upd_awake O Z W)
 obtain ⟨A, cap, rfl, -⟩ := hl.parts
 obtain ⟨A2, cap2, rfl, -⟩ := hf.parts
 obtain ⟨x1, x2⟩ := item
 obtain ⟨W0, hW0⟩ : ∃ W0, W0 = w.alloc (.cells #[.int .i64 x1, .int .i64 x2] 23) := ⟨_, rfl⟩
 have hb0 : Below w.heap.size w W0 := by rw [hW0]; exact (Below.refl _ _).alloc (by simp) _
 have r0 : Row W0 (w.heap.size) 23 #[.int .i64 x1, .int .i64 x2] := by
  rw [hW0]
  have h := (Row.made w 23 #[.int .i64 x1, .int .i64 x2])
  simpa only [World.size_alloc] using h
 have HB0 := Lib.hid hb0
 have B0 : Hid (Below W0.heap.size W0 W0) := Lib.hid (Below.refl _ _)
 have LI := Lib.hid (light_any (Rws.below hf hb0) lf (fun c hc => (bf c hc).1))
 by_cases hlf : Flt.light f
 ·rw [decide_eq_true hlf] at LI
  obtain ⟨hl24, hbd, hpl⟩ := light_flt hlf bf
  obtain ⟨hf30, hfb⟩ := Upd.few_bd hul
  have FW := Lib.hid (fun (W : World) (h : Below W0.heap.size W0 W) => ufew_any (Rws.below (Rws.below hl hb0) h) l63)
  have HF := Lib.hid (fun (W : World) (h : Below W0.heap.size W0 W) => Rws.below (Rws.below hf hb0) h)
  have XC := Lib.hid (fun (W : World) (h : Below W0.heap.size W0 W) => (⟨(r0.below h r0.inHeap).at 0, (r0.below h r0.inHeap).at 1⟩ : W.cell? ⟨w.heap.size, 0, none⟩ = some (.int .i64 x1) ∧ W.cell? ⟨w.heap.size, 1, none⟩ = some (.int .i64 x2)))
  have HX := Lib.hid hx
  have HBD := Lib.hid (⟨hl24, hbd, hpl⟩ : f.length ≤ 24 ∧ (∀ c ∈ f, Flt.Bd c) ∧ ∀ c ∈ f, c.pre.length ≤ 100000)
  generalize Upd.few l = g at *
  have HG := Lib.hid (⟨hf30, hfb⟩ : g.length ≤ 30 ∧ ∀ u ∈ g, Upd.Bd u)
  clear hl l63 hul hf lf bf hlf hl24 hbd hpl hf30 hfb hx
  go_enter Try.func5, Try.ntmps5
  go_wp2_with fail
  first | rw [← hW0] | skip
  clear hW0 r0 hb0
  refine (LI.out).mono ?_
  rintro e w1 ⟨rfl, b1⟩
  have B1 := Lib.hid (B0.out.trans (b1.mono B0.out.size))
  clear b1
  go_wp2_with fail
  refine (FW.out _ B1.out).mono ?_
  rintro e w2 ⟨v1, rfl, hg⟩
  have B2 := Lib.hid (B1.out.trans (hg.2.mono B1.out.size))
  obtain ⟨A1, cap1, rfl, -⟩ := (hg.rows (fun _ _ => rfl)).parts
  have OG := Lib.hid (fun (W : World) (h : Below w2.heap.size w2 W) => Rws.below (hg.rows (fun _ _ => rfl)) h)
  have hgl : (g.length : Int) ≤ 30 := by have := HG.out.1; omega
  have BE := Lib.hid (O.best ⟨x1, x2⟩ (OG.out w2 (Below.refl _ _)) (by have := HG.out.1; omega) HG.out.2 HX.out)
  have UB := Lib.hid (fun (W : World) (h : Below w2.heap.size w2 W) => ref_ubest (OG.out W h) (by have := HG.out.1; omega) ⟨x1, x2⟩)
  have VW := Lib.hid (fun (W : World) (h : Below w2.heap.size w2 W) => O.view (OG.out W h) (HF.out W (B2.out.trans (h.mono B2.out.size))) (by have := HG.out.1; omega) HG.out.2 (by have := HBD.out.1; omega) HBD.out.2.1)
  have RV := Lib.hid (fun (W : World) (h : Below w2.heap.size w2 W) => ref_uview (OG.out W h) (HF.out W (B2.out.trans (h.mono B2.out.size))) (by have := HG.out.1; omega) (by have := HBD.out.1; omega) HBD.out.2.2 (fun u hu => by have := (HG.out.2 u hu).path; omega))
  have SM := Lib.hid (fun (W : World) (G1 G2 : Nat → Prop) (y z : Value) (V : List Upd.U) (hV : V.length ≤ 1000000) (h1 : Ups W G1 y V) (h2 : Ups W G2 z V) => (by have h := ref_usame h1 h2 hV hV; rw [decide_eq_true rfl] at h; exact h : Calls Try.prog 22 #[y, z] W fun e w' => e = .returned (.bool true) ∧ Below W.heap.size W w'))
  have HVL : Hid (∀ P, (Upd.view g P).length ≤ 1000000) := Lib.hid (fun P => Nat.le_trans (Upd.best_len g P) (by have := HG.out.1; omega))
  obtain ⟨c0, c1⟩ := XC.out w2 B2.out
  clear hg FW
  generalize f.length = fl at *
  have HD : Hid (∀ k : Int, Upd.BestAt g g.length ⟨x1, x2⟩ k → (Upd.best g ⟨x1, x2⟩ = none ∧ k = -1) ∨ ∃ (j : Nat) (u : Upd.U), k = (j : Int) ∧ g[j]? = some u ∧ Upd.best g ⟨x1, x2⟩ = some u) := Lib.hid (fun k hk => by
   rcases hk with ⟨h1, h2⟩ | ⟨j, u, h1, -, h3, h4⟩
   ·rw [List.take_length] at h1; exact Or.inl ⟨h1, h2⟩
   ·rw [List.take_length] at h4; exact Or.inr ⟨j, u, h1, h3, h4⟩)
  cases hbs : Upd.best g ⟨x1, x2⟩ with
  | none =>
   have BE2 := Lib.hid (show Calls Try.prog 20 #[.slice A1 g.length cap1, .agg #[.int .i64 x1, .int .i64 x2]] w2 fun e w' => e = .returned (.tuple #[.agg #[.int .i64 0, .int .i64 0, .int .i64 0, .int .i64 0, .int .i64 0, .string ⟨#[]⟩, .string ⟨#[]⟩, .bool false], .bool false]) ∧ Below w2.heap.size w2 w' from by have h := BE.out; rw [hbs] at h; exact h)
   clear BE
   go_wp2_with fail
   refine (BE2.out).mono ?_
   rintro e w3 ⟨rfl, b3⟩
   have hA4 : Below w3.heap.size w3 (w3.alloc (.cells #[.int .i64 0, .int .i64 0, .int .i64 0, .int .i64 0, .int .i64 0, .string ⟨#[]⟩, .string ⟨#[]⟩, .bool false] 27)) := (Below.refl _ _).alloc (Nat.le_refl _) _
   have B4 := Lib.hid (b3.trans (hA4.mono b3.size))
   have R4 := Lib.hid (Row.made w3 27 #[.int .i64 0, .int .i64 0, .int .i64 0, .int .i64 0, .int .i64 0, .string ⟨#[]⟩, .string ⟨#[]⟩, .bool false])
   have B4w := Lib.hid (B2.out.trans (B4.out.mono B2.out.size))
   obtain ⟨c0, c1⟩ := XC.out _ B4w.out
   clear b3 hA4
   go_wp2_with fail
   clear c0 c1
   refine (UB.out _ B4.out).mono ?_
   rintro e w5 ⟨⟨k, rfl, hk⟩, b5⟩
   have B5 := Lib.hid (B4.out.trans (b5.mono B4.out.size))
   have R5 := Lib.hid (R4.out.below b5 R4.out.inHeap)
   clear b5
   have hk1 : k = -1 := by
    rcases HD.out k hk with ⟨-, h⟩ | ⟨j, u, -, -, h⟩
    ·exact h
    ·rw [hbs] at h; cases h
   subst hk1
   have LZ := Lib.hid (fun (W : World) (h : InB w5 W) => up_lies_row (cs := [.int .i64 0, .int .i64 0, .int .i64 0, .int .i64 0, .int .i64 0, .string ⟨#[]⟩, .string ⟨#[]⟩, .bool false]) (R5.out.below h.below R5.out.inHeap) rfl)
   have EZ : Hid (∀ W, (binOp .neq 27 (.agg #[.int .i64 0, .int .i64 0, .int .i64 0, .int .i64 0, .int .i64 0, .string ⟨#[]⟩, .string ⟨#[]⟩, .bool false]) (.agg #[.int .i64 0, .int .i64 0, .int .i64 0, .int .i64 0, .int .i64 0, .string ⟨#[]⟩, .string ⟨#[]⟩, .bool false])).run Try.prog W = .ok (.bool false) W) := Lib.hid (fun W => by have h := up_neql W Upd.zeroU Upd.zeroU; rw [decide_eq_true (rfl : Upd.zeroU = _)] at h; exact h)
   clear hk R4 hbs
   go_wp2_with fail
   refine wp_region_below mixed (by kernel_rfl) ?_
   refine wq_td ?_
   simp only [Act.put, z1, z2, z3, z4, z5, z6]
   refine wq_td ?_
   simp only [Act.put, z1, z2, z3, z4, z5, z6]
   refine wq_td ?_
   simp only [Act.put, z1, z2, z3, z4, z5, z6]
   refine wq_td ?_
   simp only [Act.put, z1, z2, z3, z4, z5, z6]
   refine wq_td ?_
   simp only [Act.put, z1, z2, z3, z4, z5, z6]
   refine wq_td ?_
   simp only [Act.put, z1, z2, z3, z4, z5, z6]
   refine wq_td ?_
   simp only [Act.put, z1, z2, z3, z4, z5, z6]
   refine wq_skip (by kernel_rfl) ?_
   simp only [Act.put, z1, z2, z3, z4, z5, z6]
   refine wq_skip (by kernel_rfl) ?_
   simp only [Act.put, z1, z2, z3, z4, z5, z6]
   refine wq_skip (by kernel_rfl) ?_
   simp only [Act.put, z1, z2, z3, z4, z5, z6]
   refine wq_skip (by kernel_rfl) ?_
   simp only [Act.put, z1, z2, z3, z4, z5, z6]
   refine wq_skip (by kernel_rfl) ?_
   simp only [Act.put, z1, z2, z3, z4, z5, z6]
   refine wq_skip (by kernel_rfl) ?_
   simp only [Act.put, z1, z2, z3, z4, z5, z6]
   refine wq_td ?_
   simp only [Act.put, z1, z2, z3, z4, z5, z6]
   refine wq_td ?_
   simp only [Act.put, z1, z2, z3, z4, z5, z6]
   refine wq_td ?_
   simp only [Act.put, z1, z2, z3, z4, z5, z6]
   refine wq_td ?_
   simp only [Act.put, z1, z2, z3, z4, z5, z6]
   refine wq_td ?_
   simp only [Act.put, z1, z2, z3, z4, z5, z6]
   refine wq_td ?_
   simp only [Act.put, z1, z2, z3, z4, z5, z6]
   refine wq_mload (by rfl) (.tmp 7) (by rfl) (by rfl) (fun w hSw => LZ.out w hSw) ?_
   simp only [Act.put, z1, z2, z3, z4, z5, z6]
   refine wq_td ?_
   simp only [Act.put, z1, z2, z3, z4, z5, z6]
   refine wq_take (v := .bool false) (by kernel_rfl) (by intro w hSw; exact exec_bin (by rfl) (by rfl) (by rfl) upGuard (EZ.out w)) ?_
   simp only [Act.put, z1, z2, z3, z4, z5, z6]
   refine wq_td ?_
   simp only [Act.put, z1, z2, z3, z4, z5, z6]
   refine wq_td ?_
   simp only [Act.put, z1, z2, z3, z4, z5, z6]
   refine wq_nil ?_
   intro wq hq
   have BQ := Lib.hid (B5.out.trans (hq.below.mono B5.out.size))
   clear hq LZ EZ
   go_wp2_with fail
   refine (AW.out _).mono ?_
   rintro e w7 ⟨rfl, b7⟩
   have B7 := Lib.hid (BQ.out.trans (b7.mono BQ.out.size))
   clear b7
   go_wp2_with fail
   refine (VW.out _ B7.out).mono ?_
   rintro e w8 ⟨v8, rfl, h8, b8⟩
   have B8 := Lib.hid (B7.out.trans (b8.mono B7.out.size))
   have H8 := Lib.hid h8
   obtain ⟨A8, c8, rfl, -⟩ := h8.parts
   clear h8 b8
   go_wp2_with fail
   refine (RV.out _ B8.out).mono ?_
   rintro e w9 ⟨v9, rfl, h9⟩
   have B9 := Lib.hid (B8.out.trans (h9.2.mono B8.out.size))
   have S9 := Lib.hid (SM.out _ _ _ _ _ _ (HVL.out _) (Rws.below H8.out h9.2) (h9.rows (fun _ _ => rfl)))
   clear h9 H8
   go_wp2_with fail
   refine (S9.out).mono ?_
   rintro e wz ⟨rfl, bz⟩
   have BZ := Lib.hid (HB0.out.trans (((B2.out.trans ((B9.out.trans (bz.mono B9.out.size)).mono B2.out.size))).mono HB0.out.size))
   clear bz
   go_wp2_with fail
   go_ret
   exact ⟨rfl, BZ.out⟩
  | some u =>
   have BE2 := Lib.hid (show Calls Try.prog 20 #[.slice A1 g.length cap1, .agg #[.int .i64 x1, .int .i64 x2]] w2 fun e w' => e = .returned (.tuple #[.agg #[.int .i64 u.item.by_, .int .i64 u.item.n, .int .i64 u.stamp.v.by_, .int .i64 u.stamp.v.n, .int .i64 u.stamp.time, .string (mk u.path), .string (mk u.data), .bool u.dead], .bool true]) ∧ Below w2.heap.size w2 w' from by have h := BE.out; rw [hbs] at h; exact h)
   clear BE
   go_wp2_with fail
   refine (BE2.out).mono ?_
   rintro e w3 ⟨rfl, b3⟩
   have hA4 : Below w3.heap.size w3 (w3.alloc (.cells #[.int .i64 u.item.by_, .int .i64 u.item.n, .int .i64 u.stamp.v.by_, .int .i64 u.stamp.v.n, .int .i64 u.stamp.time, .string (mk u.path), .string (mk u.data), .bool u.dead] 27)) := (Below.refl _ _).alloc (Nat.le_refl _) _
   have B4 := Lib.hid (b3.trans (hA4.mono b3.size))
   have R4 := Lib.hid (Row.made w3 27 #[.int .i64 u.item.by_, .int .i64 u.item.n, .int .i64 u.stamp.v.by_, .int .i64 u.stamp.v.n, .int .i64 u.stamp.time, .string (mk u.path), .string (mk u.data), .bool u.dead])
   have B4w := Lib.hid (B2.out.trans (B4.out.mono B2.out.size))
   obtain ⟨c0, c1⟩ := XC.out _ B4w.out
   clear b3 hA4
   go_wp2_with fail
   clear c0 c1
   refine (UB.out _ B4.out).mono ?_
   rintro e w5 ⟨⟨k, rfl, hk⟩, b5⟩
   have B5 := Lib.hid (B4.out.trans (b5.mono B4.out.size))
   have R5 := Lib.hid (R4.out.below b5 R4.out.inHeap)
   clear b5
   obtain ⟨j, rfl, hj⟩ : ∃ j : Nat, k = (j : Int) ∧ g[j]? = some u := by
    rcases HD.out k hk with ⟨h, -⟩ | ⟨j, x, h1, h2, h⟩
    ·rw [hbs] at h; cases h
    ·rw [hbs] at h; injection h with h; subst h; exact ⟨j, h1, h2⟩
   have LU := Lib.hid (fun (W : World) (h : InB w5 W) => (up_lies_row (cs := upV u) (R5.out.below h.below R5.out.inHeap) rfl : Lies 27 W w3.heap.size 0 (upV u)))
   have hjl : j < g.length := (List.getElem?_eq_some_iff.1 hj).1
   have hj0 : (0 : Int) ≤ (j : Int) := by omega
   have hj1 : (j : Int) < (g.length : Int) := by omega
   obtain ⟨b, o, rfl⟩ : ∃ b o, A1 = some ⟨b, o, none⟩ := by
    obtain ⟨b, o, c, e, -⟩ := (OG.out w2 (Below.refl _ _)).block (by omega)
    injection e with e1
    exact ⟨b, o, e1⟩
   have LE := Lib.hid (fun (W : World) (h : InB w5 W) => up_lies (range_rws (OG.out W (B5.out.trans (h.below.mono B5.out.size))) hj) (up_len u))
   have EN : Hid (∀ W, (binOp .neq 27 (.agg (upV u).toArray) (.agg (upV u).toArray)).run Try.prog W = .ok (.bool false) W) := Lib.hid (fun W => by have h := up_neql W u u; rw [decide_eq_true (rfl : u = u)] at h; exact h)
   clear hk R4 hbs hj hjl
   go_wp2_with fail
   refine wp_region_below mixed (by kernel_rfl) ?_
   refine wq_td ?_
   simp only [Act.put, z1, z2, z3, z4, z5, z6]
   refine wq_td ?_
   simp only [Act.put, z1, z2, z3, z4, z5, z6]
   refine wq_td ?_
   simp only [Act.put, z1, z2, z3, z4, z5, z6]
   refine wq_td ?_
   simp only [Act.put, z1, z2, z3, z4, z5, z6]
   refine wq_td ?_
   simp only [Act.put, z1, z2, z3, z4, z5, z6]
   refine wq_td ?_
   simp only [Act.put, z1, z2, z3, z4, z5, z6]
   refine wq_td ?_
   simp only [Act.put, z1, z2, z3, z4, z5, z6]
   refine wq_mload (by rfl) (.tmp 7) (by rfl) (by rfl) (fun w hSw => LU.out w hSw) ?_
   simp only [Act.put, z1, z2, z3, z4, z5, z6]
   refine wq_td ?_
   simp only [Act.put, z1, z2, z3, z4, z5, z6]
   refine wq_td ?_
   simp only [Act.put, z1, z2, z3, z4, z5, z6]
   refine wq_td ?_
   simp only [Act.put, z1, z2, z3, z4, z5, z6]
   refine wq_mload (by rfl) (.tmp 35) (by rfl) (by rfl) (fun w hSw => LE.out w hSw) ?_
   simp only [Act.put, z1, z2, z3, z4, z5, z6]
   refine wq_take (v := .bool false) (by kernel_rfl) (by intro w hSw; exact exec_bin (by rfl) (by rfl) (by rfl) upGuard (EN.out w)) ?_
   simp only [Act.put, z1, z2, z3, z4, z5, z6]
   refine wq_td ?_
   simp only [Act.put, z1, z2, z3, z4, z5, z6]
   refine wq_td ?_
   simp only [Act.put, z1, z2, z3, z4, z5, z6]
   refine wq_td ?_
   simp only [Act.put, z1, z2, z3, z4, z5, z6]
   refine wq_td ?_
   simp only [Act.put, z1, z2, z3, z4, z5, z6]
   refine wq_td ?_
   simp only [Act.put, z1, z2, z3, z4, z5, z6]
   refine wq_td ?_
   simp only [Act.put, z1, z2, z3, z4, z5, z6]
   refine wq_skip (by kernel_rfl) ?_
   simp only [Act.put, z1, z2, z3, z4, z5, z6]
   refine wq_skip (by kernel_rfl) ?_
   simp only [Act.put, z1, z2, z3, z4, z5, z6]
   refine wq_skip (by kernel_rfl) ?_
   simp only [Act.put, z1, z2, z3, z4, z5, z6]
   refine wq_td ?_
   simp only [Act.put, z1, z2, z3, z4, z5, z6]
   refine wq_td ?_
   simp only [Act.put, z1, z2, z3, z4, z5, z6]
   refine wq_nil ?_
   intro wq hq
   have BQ := Lib.hid (B5.out.trans (hq.below.mono B5.out.size))
   clear hq LU LE EN
   go_wp2_with fail
   refine (AW.out _).mono ?_
   rintro e w7 ⟨rfl, b7⟩
   have B7 := Lib.hid (BQ.out.trans (b7.mono BQ.out.size))
   clear b7
   go_wp2_with fail
   refine (VW.out _ B7.out).mono ?_
   rintro e w8 ⟨v8, rfl, h8, b8⟩
   have B8 := Lib.hid (B7.out.trans (b8.mono B7.out.size))
   have H8 := Lib.hid h8
   obtain ⟨A8, c8, rfl, -⟩ := h8.parts
   clear h8 b8
   go_wp2_with fail
   refine (RV.out _ B8.out).mono ?_
   rintro e w9 ⟨v9, rfl, h9⟩
   have B9 := Lib.hid (B8.out.trans (h9.2.mono B8.out.size))
   have S9 := Lib.hid (SM.out _ _ _ _ _ _ (HVL.out _) (Rws.below H8.out h9.2) (h9.rows (fun _ _ => rfl)))
   clear h9 H8
   go_wp2_with fail
   refine (S9.out).mono ?_
   rintro e wz ⟨rfl, bz⟩
   have BZ := Lib.hid (HB0.out.trans (((B2.out.trans ((B9.out.trans (bz.mono B9.out.size)).mono B2.out.size))).mono HB0.out.size))
   clear bz
   go_wp2_with fail
   go_ret
   exact ⟨rfl, BZ.out⟩
 ·rw [decide_eq_false hlf] at LI
  generalize f.length = fl at *
  generalize l.length = ll at *
  clear hl l63 hul hf lf bf hlf hx
  go_enter Try.func5, Try.ntmps5
  go_wp2_with fail
  first | rw [← hW0] | skip
  clear hW0 r0 hb0
  go_wp2_with fail
  refine (LI.out).mono ?_
  rintro e w1 ⟨rfl, b1⟩
  have B1 := Lib.hid (B0.out.trans (b1.mono B0.out.size))
  clear b1
  go_wp2_with fail
  refine (AW.out _).mono ?_
  rintro e w2 ⟨rfl, b2⟩
  have B2 := Lib.hid (B1.out.trans (b2.mono B1.out.size))
  clear b2
  go_wp2_with fail
  go_ret
  exact ⟨rfl, HB0.out.trans (B2.out.mono HB0.out.size)⟩
end Go.Proofs.Ytgpeobmaneponaa
namespace Go.Proofs.Ytgpeobmaneponaa
open Go.RowKit
open Go.ChangeShapes Go.WideShapes Go.ChangeAt
open Go.ChangeMaps (open_string shut_string)
theorem updateViews_lifted (os : Os) (started : os.Started) (H : Type) (enc : TypeId × Value → H) :
  ReturnsInHanded {} Try.checked os 5 .any (Rows.updateViewsSpec.pre6 enc Try.prog Try.f5 Rows.updateViewsRow.domain false) (Rows.updateViewsSpec.post enc Try.prog Try.f5 false true false false) := by
 refine returnsInHanded_of_change_sized (C := Try.checked) own started (by kernel_rfl) Try.func5
  (ChangeSpec.witness6 (enc := enc) (C := Try.checked) false ⟨#[], #[.slice none 0 0, .slice none 0 0, .agg #[.int .i64 0, .int .i64 0]], []⟩ 8 (by kernel_rfl) (by kernel_rfl) (by kernel_rfl) (by kernel_rfl)) ?_
 intro W base args ds gs before hval0 hW _ hsz _
 have hval : ∀ (j : Nat) t v, Try.f5.params[j]? = some t → args[j]? = some v → Value.okWide Try.prog W .any base t v := hval0
 have hW0 := hW
 obtain ⟨p, q, hA0, hV, _, _, _⟩ := hW
 have hA : DataW.TrodAll enc Try.prog W 0 (fun _ => true) true Try.f5.params.toList args.toList ds p := hA0
 rw [Try.params5] at hA hval hsz
 obtain ⟨v0, vs0, d0, ds0, p0, q0, hargs, rfl, rfl, h0, r0⟩ := trodAll_cons hA
 obtain ⟨v1, vs1, d1, ds1, p1, q1, rfl, rfl, rfl, h1, r1⟩ := trodAll_cons r0
 obtain ⟨v2, vs2, d2, ds2, p2, q2, rfl, rfl, rfl, h2, r2⟩ := trodAll_cons r1
 obtain ⟨rfl, rfl, rfl⟩ := trodAll_nil r2
 obtain rfl : args = #[v0, v1, v2] := by cases args; simp_all
 obtain ⟨ll, lin, l63, lbd⟩ := open_ups (okWide_slice Try.underlying44 (hval 0 44 v0 rfl rfl)) h0
 obtain ⟨fl, fin, f63, fbd⟩ := open_cll (okWide_slice Try.underlying40 (hval 1 40 v1 rfl rfl)) h1
 obtain ⟨xx, rfl, xbd⟩ := open_ver (okWide_struct Try.underlying23 (hval 2 23 v2 rfl rfl)) h2
 obtain ⟨rfl, rfl⟩ := trodVars_none hV
 refine (uviews_walk update_ok filter_ok lin l63 lbd fin f63 fbd xbd).mono fun e W' ⟨he, hg⟩ => ?_
 subst he
 exact ⟨_, rfl, law_done (by kernel_rfl) rfl hW0 rfl (by rw [Try.params5]; decide +kernel) hg⟩
theorem updateViews_over : Rows.updateViewsRow.holds Try.pinned (OpenSpec.ofChange Rows.updateViewsSpec) :=
 OpenClaim.holds_of_wide 5 Try.f5 rfl rfl rfl rfl rfl rfl rfl ⟨rfl, rfl, rfl, rfl, rfl⟩ rfl rfl rfl rfl rfl (by kernel_rfl) Try.func5 (by kernel_rfl)
  (of_decide_eq_true (by kernel_rfl)) (by unfold Func.isWrapper; first | (rw [if_pos (by decide +kernel)]; kernel_rfl) | (rw [if_neg (by decide +kernel)]; exact ⟨rfl, rfl⟩))
  (fun os started H enc _ => updateViews_lifted os started H enc)
theorem updateViews_holds : Rows.UpdateViewsSaid := updateViews_over
#print axioms updateViews_holds
end Go.Proofs.Ytgpeobmaneponaa
