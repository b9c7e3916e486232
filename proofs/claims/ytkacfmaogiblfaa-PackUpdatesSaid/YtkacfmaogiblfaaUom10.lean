import Derived.Test.YtkacfmaogiblfaaUom5
import Derived.Test.YtkacfmaogiblfaaUom9
import Derived.Test.YtkacfmaogiblfaaUom6
import Derived.Test.YtkacfmaogiblfaaUom8
set_option maxRecDepth 100000
set_option linter.all false
set_option maxHeartbeats 12800000
namespace Go.Proofs.Ytkacfmaogiblfaa
open Go.RowKit Go.Sort
theorem row_lies {ty t : TypeId} {w : World} {b : Nat} {cs : List Value} (h : Row w b t cs.toArray) (hu : ∃ d, Try.prog.underlying ty = some d ∧ d.isRow = true) (hs : (Try.prog.info? ty).map (·.size) = some cs.length) : Lies ty w b 0 cs := ⟨range_row h, hu, hs⟩
theorem pck_around {id : FuncId} (L : Lays id) {w : World} {c : Nat} {ok : Bool} (m : Upd.M) (own : Fl) (h1 : Pck.NnV m.item) (h2 : Pck.NnS m.stamp) (h3 : m.path.length ≤ 100000) (ho : FlOk own) (hE : ErrAt w c ok) :
  Calls Try.prog 74 #[.func (.func id) #[] #[.pointer (some ⟨c, 0, none⟩)], mtA m, .agg #[.int .i64 own.num, .string own.txt, .bool own.isT]] w (PutTo w c ok (Pck.ver m.item ++ (Pck.stp m.stamp ++ (Pck.txt m.path ++ (own.bytes ++ Pck.bit m.dead))))) := by
 obtain ⟨⟨i1, i2⟩, ⟨tt, ⟨v1, v2⟩⟩, p, sz, dead⟩ := m
 obtain ⟨on, ot, oT⟩ := own
 have hcf := run_callFunc_own L.there
 have hcw := Lib.hid (Row.inHeap hE)
 have Hsz : Hid ((Try.prog.info? 120).map (·.size) = some 3) := Lib.hid (by kernel_rfl)
 have Hfu : Hid (∃ d, Try.prog.underlying 120 = some d ∧ d.isRow = true) := Lib.hid ⟨_, Try.underlying120, rfl⟩
 have RA0 := Row.made w 29 #[.int .i64 i1, .int .i64 i2, .int .i64 v1, .int .i64 v2, .int .i64 tt, .string (mk p), .int .i64 sz, .bool dead]
 have RB0 := Row.made (w.alloc (.cells #[.int .i64 i1, .int .i64 i2, .int .i64 v1, .int .i64 v2, .int .i64 tt, .string (mk p), .int .i64 sz, .bool dead] 29)) 120 #[.int .i64 on, .string ot, .bool oT]
 rw [World.size_alloc] at RB0
 dsimp only [mtA]
 dsimp only at h1 h2 h3
 cases dead
 ·have FO : ∀ f ∈ ([flN i1, flN i2, flN v1, flN v2, flN tt, flT p, ⟨on, ot, oT⟩, flN 0] : List Fl), FlOk f := by
   intro f hf
   simp only [List.mem_cons, List.not_mem_nil, or_false] at hf
   rcases hf with rfl | rfl | rfl | rfl | rfl | rfl | rfl | rfl
   ·exact flN_ok h1.1.1 h1.1.2
   ·exact flN_ok h1.2.1 h1.2.2
   ·exact flN_ok h2.1.1.1 h2.1.1.2
   ·exact flN_ok h2.1.2.1 h2.1.2.2
   ·exact flN_ok h2.2.1 h2.2.2
   ·exact flT_ok (by omega)
   ·exact ho
   ·exact flN_ok (by decide) (by decide)
  have AB : allBytes [flN i1, flN i2, flN v1, flN v2, flN tt, flT p, ⟨on, ot, oT⟩, flN 0] = (Pck.ver ⟨i1, i2⟩ ++ (Pck.stp ⟨tt, ⟨v1, v2⟩⟩ ++ (Pck.txt p ++ ((⟨on, ot, oT⟩ : Fl).bytes ++ Pck.bit false)))) := by
   simp only [allBytes, List.flatMap_cons, List.flatMap_nil, List.append_nil, flN_all, flT_all, Pck.ver, Pck.stp, Pck.bit, List.append_assoc]
   rfl
  have LY : Hid (∀ (W : World) (bk : Nat), ErrAt W c ok → FieldsAt W bk 0 [flN i1, flN i2, flN v1, flN v2, flN tt, flT p, ⟨on, ot, oT⟩, flN 0] → bk < W.heap.size → Calls Try.prog id #[.slice (some ⟨bk, 0, none⟩) 8 8, .pointer (some ⟨c, 0, none⟩)] W (PutTo W c ok ((Pck.ver ⟨i1, i2⟩ ++ (Pck.stp ⟨tt, ⟨v1, v2⟩⟩ ++ (Pck.txt p ++ ((⟨on, ot, oT⟩ : Fl).bytes ++ Pck.bit false))))))) := Lib.hid (fun W bk h1 h2 h3 => by have := L.lays (cap := 8) h1 h2 h3 (by simp) FO; rwa [AB] at this)
  have FF : Hid (∀ W : World, FieldsAt (W.alloc (.cells #[.int .i64 i1, .string ⟨#[]⟩, .bool false, .int .i64 i2, .string ⟨#[]⟩, .bool false, .int .i64 v1, .string ⟨#[]⟩, .bool false, .int .i64 v2, .string ⟨#[]⟩, .bool false, .int .i64 tt, .string ⟨#[]⟩, .bool false, .int .i64 0, .string (mk p), .bool true, .int .i64 on, .string ot, .bool oT, .int .i64 0, .string ⟨#[]⟩, .bool false] 120)) W.heap.size 0 [flN i1, flN i2, flN v1, flN v2, flN tt, flT p, ⟨on, ot, oT⟩, flN 0]) := Lib.hid (fun W => fields_at (Rws.made W 120 [flN i1, flN i2, flN v1, flN v2, flN tt, flT p, ⟨on, ot, oT⟩, flN 0] (fun f _ => fl3_len f)) (by simp))
  generalize mk p = pb at *
  clear AB FO h1 h2 h3 ho L
  have XA := Lib.hid (RA0.behindNew (.cells #[.int .i64 on, .string ot, .bool oT] 120))
  have XB := Lib.hid RB0
  have E00 := Lib.hid ((hE.new (.cells #[.int .i64 i1, .int .i64 i2, .int .i64 v1, .int .i64 v2, .int .i64 tt, .string pb, .int .i64 sz, .bool false] 29)).new (.cells #[.int .i64 on, .string ot, .bool oT] 120))
  have G00 : Hid (w.grownBy ((w.alloc (.cells #[.int .i64 i1, .int .i64 i2, .int .i64 v1, .int .i64 v2, .int .i64 tt, .string pb, .int .i64 sz, .bool false] 29)).alloc (.cells #[.int .i64 on, .string ot, .bool oT] 120)) (some c)) := Lib.hid (gb_new (gb_new (gb_refl _ _) _) _)
  clear RA0 RB0 hE
  go_enter Try.func74, Try.ntmps74
  go_wp2_with fail
  refine (field_n _ _).mono ?_
  rintro e w1 ⟨rfl, hb1⟩
  have hs1 := hb1.size
  simp only [World.size_alloc] at hs1
  have cD : (w1.alloc (.cells #[.int .i64 0, .string ⟨#[]⟩, .bool false] 120)).cell? ⟨w.heap.size, 7, none⟩ = some (.bool false) := ((XA.out.below hb1 XA.out.inHeap).behindNew _).at 7
  have YA := Lib.hid ((XA.out.below hb1 XA.out.inHeap).behindNew (.cells #[.int .i64 0, .string ⟨#[]⟩, .bool false] 120))
  have YB := Lib.hid ((XB.out.below hb1 XB.out.inHeap).behindNew (.cells #[.int .i64 0, .string ⟨#[]⟩, .bool false] 120))
  have YD := Lib.hid (Row.made w1 120 #[.int .i64 0, .string ⟨#[]⟩, .bool false])
  have E01 := Lib.hid ((E00.out.below hb1).new (.cells #[.int .i64 0, .string ⟨#[]⟩, .bool false] 120))
  have G01 := Lib.hid (gb_new (gb_trans G00.out (gb_below hb1 _)) (.cells #[.int .i64 0, .string ⟨#[]⟩, .bool false] 120))
  have Hs1 := Lib.hid hs1
  clear hb1 hs1
  go_wp2_with fail
  clear cD
  have HX : Hid (∀ W : World, (w1.alloc (.cells #[.int .i64 0, .string ⟨#[]⟩, .bool false] 120)).grownBy W (some c) → Row W w.heap.size 29 #[.int .i64 i1, .int .i64 i2, .int .i64 v1, .int .i64 v2, .int .i64 tt, .string pb, .int .i64 sz, .bool false] ∧ Row W (w.heap.size + 1) 120 #[.int .i64 on, .string ot, .bool oT] ∧ Row W w1.heap.size 120 #[.int .i64 0, .string ⟨#[]⟩, .bool false]) := Lib.hid (fun W hW => ⟨YA.out.grown hW (fun e => by have := hcw.out; injection e with e; omega), YB.out.grown hW (fun e => by have := hcw.out; injection e with e; omega), YD.out.grown hW (fun e => by have := hcw.out; have := Hs1.out; injection e with e; omega)⟩)
  have E0 : Hid (ErrAt (w1.alloc (.cells #[.int .i64 0, .string ⟨#[]⟩, .bool false] 120)).drew c ok) := Lib.hid E01.out.draw
  refine wp_region_held_drew (S := (fun w' : World => (w1.alloc (.cells #[.int .i64 0, .string ⟨#[]⟩, .bool false] 120)).grownBy w' (some c))) (by kernel_rfl) (gb_draw (gb_refl _ _)) (fun hHeld => ?_)
  refine wpAnyH_td (i := 0) rfl ?_
  simp only [zz]
  refine wpAnyH_td (i := 1) rfl ?_
  simp only [zz]
  refine wpAnyH_td (i := 2) rfl ?_
  simp only [zz]
  refine wpAnyH_tk (i := 3) (v := ?_) rfl (Or.inl ⟨by rfl, (by intro w hSw; have c0 := (HX.out _ hSw).1.at 0; go_simp; try with_reducible rfl)⟩) (by assumption) ?_
  simp only [zz]
  refine wpAnyH_td (i := 5) rfl ?_
  simp only [zz]
  refine wpAnyH_td (i := 6) rfl ?_
  simp only [zz]
  refine wpAnyH_tk (i := 7) (v := ?_) rfl (Or.inl ⟨by rfl, (by intro w hSw; have c0 := (HX.out _ hSw).1.at 1; go_simp; try with_reducible rfl)⟩) (by assumption) ?_
  simp only [zz]
  refine wpAnyH_td (i := 9) rfl ?_
  simp only [zz]
  refine wpAnyH_td (i := 10) rfl ?_
  simp only [zz]
  refine wpAnyH_td (i := 11) rfl ?_
  simp only [zz]
  refine wpAnyH_tk (i := 12) (v := ?_) rfl (Or.inl ⟨by rfl, (by intro w hSw; have c0 := (HX.out _ hSw).1.at 2; go_simp; try with_reducible rfl)⟩) (by assumption) ?_
  simp only [zz]
  refine wpAnyH_td (i := 14) rfl ?_
  simp only [zz]
  refine wpAnyH_td (i := 15) rfl ?_
  simp only [zz]
  refine wpAnyH_td (i := 16) rfl ?_
  simp only [zz]
  refine wpAnyH_tk (i := 17) (v := ?_) rfl (Or.inl ⟨by rfl, (by intro w hSw; have c0 := (HX.out _ hSw).1.at 3; go_simp; try with_reducible rfl)⟩) (by assumption) ?_
  simp only [zz]
  refine wpAnyH_td (i := 19) rfl ?_
  simp only [zz]
  refine wpAnyH_td (i := 20) rfl ?_
  simp only [zz]
  refine wpAnyH_tk (i := 21) (v := ?_) rfl (Or.inl ⟨by rfl, (by intro w hSw; have c0 := (HX.out _ hSw).1.at 4; go_simp; try with_reducible rfl)⟩) (by assumption) ?_
  simp only [zz]
  refine wpAnyH_td (i := 23) rfl ?_
  simp only [zz]
  refine wpAnyH_tk (i := 24) (v := ?_) rfl (Or.inl ⟨by rfl, (by intro w hSw; have c0 := (HX.out _ hSw).1.at 5; go_simp; try with_reducible rfl)⟩) (by assumption) ?_
  simp only [zz]
  refine wpAnyH_tk (i := 26) (v := .agg #[.int .i64 on, .string ot, .bool oT]) rfl (Or.inl ⟨by rfl, (by intro w hSw; exact exec_mload (by rfl) (by rfl) (row_lies (cs := [.int .i64 on, .string ot, .bool oT]) (HX.out _ hSw).2.1 Hfu.out Hsz.out))⟩) (by assumption) ?_
  simp only [zz]
  refine wpAnyH_tk (i := 27) (v := .agg #[.int .i64 0, .string ⟨#[]⟩, .bool false]) rfl (Or.inl ⟨by rfl, (by intro w hSw; exact exec_mload (by rfl) (by rfl) (row_lies (cs := [.int .i64 0, .string ⟨#[]⟩, .bool false]) (HX.out _ hSw).2.2 Hfu.out Hsz.out))⟩) (by assumption) ?_
  simp only [zz]
  refine wpAnyH_ready (rs := [4]) (by kernel_rfl) (by simp) ?_
  refine AllReadyH.cons rfl (fun K hK => ?_) AllReadyH.nil
  go_simp
  go_at_call 80
  refine (field_n _ _).mono ?_
  rintro e w4 ⟨rfl, hb⟩
  have E4 := Lib.hid (E0.out.below hb)
  refine hK.out _ _ (gb_trans hHeld (gb_below hb _)) (fun hHeld => ?_)
  clear hb
  clear hK K
  refine wpAnyH_ready (rs := [8]) (by kernel_rfl) (by simp) ?_
  refine AllReadyH.cons rfl (fun K hK => ?_) AllReadyH.nil
  go_simp
  go_at_call 80
  refine (field_n _ _).mono ?_
  rintro e w8 ⟨rfl, hb⟩
  have E8 := Lib.hid (E4.out.below hb)
  refine hK.out _ _ (gb_trans hHeld (gb_below hb _)) (fun hHeld => ?_)
  clear hb
  clear hK K
  refine wpAnyH_ready (rs := [13]) (by kernel_rfl) (by simp) ?_
  refine AllReadyH.cons rfl (fun K hK => ?_) AllReadyH.nil
  go_simp
  go_at_call 80
  refine (field_n _ _).mono ?_
  rintro e w13 ⟨rfl, hb⟩
  have E13 := Lib.hid (E8.out.below hb)
  refine hK.out _ _ (gb_trans hHeld (gb_below hb _)) (fun hHeld => ?_)
  clear hb
  clear hK K
  refine wpAnyH_ready (rs := [18]) (by kernel_rfl) (by simp) ?_
  refine AllReadyH.cons rfl (fun K hK => ?_) AllReadyH.nil
  go_simp
  go_at_call 80
  refine (field_n _ _).mono ?_
  rintro e w18 ⟨rfl, hb⟩
  have E18 := Lib.hid (E13.out.below hb)
  refine hK.out _ _ (gb_trans hHeld (gb_below hb _)) (fun hHeld => ?_)
  clear hb
  clear hK K
  refine wpAnyH_ready (rs := [22]) (by kernel_rfl) (by simp) ?_
  refine AllReadyH.cons rfl (fun K hK => ?_) AllReadyH.nil
  go_simp
  go_at_call 80
  refine (field_n _ _).mono ?_
  rintro e w22 ⟨rfl, hb⟩
  have E22 := Lib.hid (E18.out.below hb)
  refine hK.out _ _ (gb_trans hHeld (gb_below hb _)) (fun hHeld => ?_)
  clear hb
  clear hK K
  refine wpAnyH_ready (rs := [25]) (by kernel_rfl) (by simp) ?_
  refine AllReadyH.cons rfl (fun K hK => ?_) AllReadyH.nil
  go_simp
  go_at_call 75
  refine (field_t _ _).mono ?_
  rintro e w25 ⟨rfl, hb⟩
  have E25 := Lib.hid (E22.out.below hb)
  refine hK.out _ _ (gb_trans hHeld (gb_below hb _)) (fun hHeld => ?_)
  clear hb
  clear hK K
  refine wpAnyH_ready (rs := [28]) (by kernel_rfl) (by simp) ?_
  refine AllReadyH.cons rfl (fun K hK => ?_) AllReadyH.nil
  go_simp
  have E28 : Hid (ErrAt (w25.alloc (.cells #[.int .i64 i1, .string ⟨#[]⟩, .bool false, .int .i64 i2, .string ⟨#[]⟩, .bool false, .int .i64 v1, .string ⟨#[]⟩, .bool false, .int .i64 v2, .string ⟨#[]⟩, .bool false, .int .i64 tt, .string ⟨#[]⟩, .bool false, .int .i64 0, .string pb, .bool true, .int .i64 on, .string ot, .bool oT, .int .i64 0, .string ⟨#[]⟩, .bool false] 120)) c ok) := Lib.hid (E25.out.new _)
  have F28 : Hid (FieldsAt (w25.alloc (.cells #[.int .i64 i1, .string ⟨#[]⟩, .bool false, .int .i64 i2, .string ⟨#[]⟩, .bool false, .int .i64 v1, .string ⟨#[]⟩, .bool false, .int .i64 v2, .string ⟨#[]⟩, .bool false, .int .i64 tt, .string ⟨#[]⟩, .bool false, .int .i64 0, .string pb, .bool true, .int .i64 on, .string ot, .bool oT, .int .i64 0, .string ⟨#[]⟩, .bool false] 120)) w25.heap.size 0 [flN i1, flN i2, flN v1, flN v2, flN tt, flT p, ⟨on, ot, oT⟩, flN 0]) := Lib.hid (FF.out w25)
  refine hK.out _ _ (gb_new hHeld _) (fun hHeld => ?_)
  clear hK K
  refine wpAnyH_ready (rs := [29]) (by kernel_rfl) (by simp) ?_
  refine AllReadyH.cons rfl (fun K hK => ?_) AllReadyH.nil
  go_simp
  refine (LY.out _ _ E28.out F28.out (by simp)).mono ?_
  rintro e w9 ⟨rfl, h8, h9⟩
  have E9 := Lib.hid h8
  have G9 := Lib.hid (gb_trans hHeld h9)
  refine hK.out _ _ G9.out (fun hHeld => ?_)
  clear h8 h9
  clear hK K
  refine wpAnyH_td (i := 30) rfl ?_
  simp only [zz]
  refine wpAnyH_done (by kernel_rfl) ?_ _
  go_wp2_with fail
  go_ret
  exact ⟨rfl, E9.out, gb_trans G01.out G9.out⟩
 ·have FO : ∀ f ∈ ([flN i1, flN i2, flN v1, flN v2, flN tt, flT p, ⟨on, ot, oT⟩, flN 1] : List Fl), FlOk f := by
   intro f hf
   simp only [List.mem_cons, List.not_mem_nil, or_false] at hf
   rcases hf with rfl | rfl | rfl | rfl | rfl | rfl | rfl | rfl
   ·exact flN_ok h1.1.1 h1.1.2
   ·exact flN_ok h1.2.1 h1.2.2
   ·exact flN_ok h2.1.1.1 h2.1.1.2
   ·exact flN_ok h2.1.2.1 h2.1.2.2
   ·exact flN_ok h2.2.1 h2.2.2
   ·exact flT_ok (by omega)
   ·exact ho
   ·exact flN_ok (by decide) (by decide)
  have AB : allBytes [flN i1, flN i2, flN v1, flN v2, flN tt, flT p, ⟨on, ot, oT⟩, flN 1] = (Pck.ver ⟨i1, i2⟩ ++ (Pck.stp ⟨tt, ⟨v1, v2⟩⟩ ++ (Pck.txt p ++ ((⟨on, ot, oT⟩ : Fl).bytes ++ Pck.bit true)))) := by
   simp only [allBytes, List.flatMap_cons, List.flatMap_nil, List.append_nil, flN_all, flT_all, Pck.ver, Pck.stp, Pck.bit, List.append_assoc]
   rfl
  have LY : Hid (∀ (W : World) (bk : Nat), ErrAt W c ok → FieldsAt W bk 0 [flN i1, flN i2, flN v1, flN v2, flN tt, flT p, ⟨on, ot, oT⟩, flN 1] → bk < W.heap.size → Calls Try.prog id #[.slice (some ⟨bk, 0, none⟩) 8 8, .pointer (some ⟨c, 0, none⟩)] W (PutTo W c ok ((Pck.ver ⟨i1, i2⟩ ++ (Pck.stp ⟨tt, ⟨v1, v2⟩⟩ ++ (Pck.txt p ++ ((⟨on, ot, oT⟩ : Fl).bytes ++ Pck.bit true))))))) := Lib.hid (fun W bk h1 h2 h3 => by have := L.lays (cap := 8) h1 h2 h3 (by simp) FO; rwa [AB] at this)
  have FF : Hid (∀ W : World, FieldsAt (W.alloc (.cells #[.int .i64 i1, .string ⟨#[]⟩, .bool false, .int .i64 i2, .string ⟨#[]⟩, .bool false, .int .i64 v1, .string ⟨#[]⟩, .bool false, .int .i64 v2, .string ⟨#[]⟩, .bool false, .int .i64 tt, .string ⟨#[]⟩, .bool false, .int .i64 0, .string (mk p), .bool true, .int .i64 on, .string ot, .bool oT, .int .i64 1, .string ⟨#[]⟩, .bool false] 120)) W.heap.size 0 [flN i1, flN i2, flN v1, flN v2, flN tt, flT p, ⟨on, ot, oT⟩, flN 1]) := Lib.hid (fun W => fields_at (Rws.made W 120 [flN i1, flN i2, flN v1, flN v2, flN tt, flT p, ⟨on, ot, oT⟩, flN 1] (fun f _ => fl3_len f)) (by simp))
  generalize mk p = pb at *
  clear AB FO h1 h2 h3 ho L
  have XA := Lib.hid (RA0.behindNew (.cells #[.int .i64 on, .string ot, .bool oT] 120))
  have XB := Lib.hid RB0
  have E00 := Lib.hid ((hE.new (.cells #[.int .i64 i1, .int .i64 i2, .int .i64 v1, .int .i64 v2, .int .i64 tt, .string pb, .int .i64 sz, .bool true] 29)).new (.cells #[.int .i64 on, .string ot, .bool oT] 120))
  have G00 : Hid (w.grownBy ((w.alloc (.cells #[.int .i64 i1, .int .i64 i2, .int .i64 v1, .int .i64 v2, .int .i64 tt, .string pb, .int .i64 sz, .bool true] 29)).alloc (.cells #[.int .i64 on, .string ot, .bool oT] 120)) (some c)) := Lib.hid (gb_new (gb_new (gb_refl _ _) _) _)
  clear RA0 RB0 hE
  go_enter Try.func74, Try.ntmps74
  go_wp2_with fail
  refine (field_n _ _).mono ?_
  rintro e w1 ⟨rfl, hb1⟩
  have hs1 := hb1.size
  simp only [World.size_alloc] at hs1
  have cD : (w1.alloc (.cells #[.int .i64 0, .string ⟨#[]⟩, .bool false] 120)).cell? ⟨w.heap.size, 7, none⟩ = some (.bool true) := ((XA.out.below hb1 XA.out.inHeap).behindNew _).at 7
  have YA := Lib.hid ((XA.out.below hb1 XA.out.inHeap).behindNew (.cells #[.int .i64 0, .string ⟨#[]⟩, .bool false] 120))
  have YB := Lib.hid ((XB.out.below hb1 XB.out.inHeap).behindNew (.cells #[.int .i64 0, .string ⟨#[]⟩, .bool false] 120))
  have YD := Lib.hid (Row.made w1 120 #[.int .i64 0, .string ⟨#[]⟩, .bool false])
  have E01 := Lib.hid ((E00.out.below hb1).new (.cells #[.int .i64 0, .string ⟨#[]⟩, .bool false] 120))
  have G01 := Lib.hid (gb_new (gb_trans G00.out (gb_below hb1 _)) (.cells #[.int .i64 0, .string ⟨#[]⟩, .bool false] 120))
  have Hs1 := Lib.hid hs1
  clear hb1 hs1
  go_wp2_with fail
  refine (field_n _ _).mono ?_
  rintro e w2 ⟨rfl, hb2⟩
  have ZA := Lib.hid (YA.out.below hb2 YA.out.inHeap)
  have ZB := Lib.hid (YB.out.below hb2 YB.out.inHeap)
  have ZD := Lib.hid (YD.out.below hb2 YD.out.inHeap)
  have E02 := Lib.hid (E01.out.below hb2)
  have G02 := Lib.hid (gb_trans G01.out (gb_below hb2 _))
  clear hb2 cD
  go_wp2_with (refine wpList_rstore (cs := [.int .i64 1, .string ⟨#[]⟩, .bool false]) (by rfl) (.tmp 7) (.tmp 11) (by rfl) (by rfl) (by rfl) ZD.out Hsz.out rfl (by simp [Value.oneCell']) ?_)
  rintro w3 hr3 hk3
  replace YA := Lib.hid (ZA.out.kept hk3 (by have := Hs1.out; omega))
  replace YB := Lib.hid (ZB.out.kept hk3 (by have := Hs1.out; omega))
  replace YD := Lib.hid hr3
  replace E01 : Hid (ErrAt w3 c ok) := Lib.hid (Row.kept E02.out hk3 (by have := Hs1.out; have := hcw.out; omega))
  replace G01 := Lib.hid (gb_kept G02.out hk3 (fun i e => by have := Hs1.out; omega))
  clear hr3 hk3 ZA ZB ZD E02 G02
  go_wp2_with fail
  have HX : Hid (∀ W : World, w3.grownBy W (some c) → Row W w.heap.size 29 #[.int .i64 i1, .int .i64 i2, .int .i64 v1, .int .i64 v2, .int .i64 tt, .string pb, .int .i64 sz, .bool true] ∧ Row W (w.heap.size + 1) 120 #[.int .i64 on, .string ot, .bool oT] ∧ Row W w1.heap.size 120 #[.int .i64 1, .string ⟨#[]⟩, .bool false]) := Lib.hid (fun W hW => ⟨YA.out.grown hW (fun e => by have := hcw.out; injection e with e; omega), YB.out.grown hW (fun e => by have := hcw.out; injection e with e; omega), YD.out.grown hW (fun e => by have := hcw.out; have := Hs1.out; injection e with e; omega)⟩)
  have E0 : Hid (ErrAt w3.drew c ok) := Lib.hid E01.out.draw
  refine wp_region_held_drew (S := (fun w' : World => w3.grownBy w' (some c))) (by kernel_rfl) (gb_draw (gb_refl _ _)) (fun hHeld => ?_)
  refine wpAnyH_td (i := 0) rfl ?_
  simp only [zz]
  refine wpAnyH_td (i := 1) rfl ?_
  simp only [zz]
  refine wpAnyH_td (i := 2) rfl ?_
  simp only [zz]
  refine wpAnyH_tk (i := 3) (v := ?_) rfl (Or.inl ⟨by rfl, (by intro w hSw; have c0 := (HX.out _ hSw).1.at 0; go_simp; try with_reducible rfl)⟩) (by assumption) ?_
  simp only [zz]
  refine wpAnyH_td (i := 5) rfl ?_
  simp only [zz]
  refine wpAnyH_td (i := 6) rfl ?_
  simp only [zz]
  refine wpAnyH_tk (i := 7) (v := ?_) rfl (Or.inl ⟨by rfl, (by intro w hSw; have c0 := (HX.out _ hSw).1.at 1; go_simp; try with_reducible rfl)⟩) (by assumption) ?_
  simp only [zz]
  refine wpAnyH_td (i := 9) rfl ?_
  simp only [zz]
  refine wpAnyH_td (i := 10) rfl ?_
  simp only [zz]
  refine wpAnyH_td (i := 11) rfl ?_
  simp only [zz]
  refine wpAnyH_tk (i := 12) (v := ?_) rfl (Or.inl ⟨by rfl, (by intro w hSw; have c0 := (HX.out _ hSw).1.at 2; go_simp; try with_reducible rfl)⟩) (by assumption) ?_
  simp only [zz]
  refine wpAnyH_td (i := 14) rfl ?_
  simp only [zz]
  refine wpAnyH_td (i := 15) rfl ?_
  simp only [zz]
  refine wpAnyH_td (i := 16) rfl ?_
  simp only [zz]
  refine wpAnyH_tk (i := 17) (v := ?_) rfl (Or.inl ⟨by rfl, (by intro w hSw; have c0 := (HX.out _ hSw).1.at 3; go_simp; try with_reducible rfl)⟩) (by assumption) ?_
  simp only [zz]
  refine wpAnyH_td (i := 19) rfl ?_
  simp only [zz]
  refine wpAnyH_td (i := 20) rfl ?_
  simp only [zz]
  refine wpAnyH_tk (i := 21) (v := ?_) rfl (Or.inl ⟨by rfl, (by intro w hSw; have c0 := (HX.out _ hSw).1.at 4; go_simp; try with_reducible rfl)⟩) (by assumption) ?_
  simp only [zz]
  refine wpAnyH_td (i := 23) rfl ?_
  simp only [zz]
  refine wpAnyH_tk (i := 24) (v := ?_) rfl (Or.inl ⟨by rfl, (by intro w hSw; have c0 := (HX.out _ hSw).1.at 5; go_simp; try with_reducible rfl)⟩) (by assumption) ?_
  simp only [zz]
  refine wpAnyH_tk (i := 26) (v := .agg #[.int .i64 on, .string ot, .bool oT]) rfl (Or.inl ⟨by rfl, (by intro w hSw; exact exec_mload (by rfl) (by rfl) (row_lies (cs := [.int .i64 on, .string ot, .bool oT]) (HX.out _ hSw).2.1 Hfu.out Hsz.out))⟩) (by assumption) ?_
  simp only [zz]
  refine wpAnyH_tk (i := 27) (v := .agg #[.int .i64 1, .string ⟨#[]⟩, .bool false]) rfl (Or.inl ⟨by rfl, (by intro w hSw; exact exec_mload (by rfl) (by rfl) (row_lies (cs := [.int .i64 1, .string ⟨#[]⟩, .bool false]) (HX.out _ hSw).2.2 Hfu.out Hsz.out))⟩) (by assumption) ?_
  simp only [zz]
  refine wpAnyH_ready (rs := [4]) (by kernel_rfl) (by simp) ?_
  refine AllReadyH.cons rfl (fun K hK => ?_) AllReadyH.nil
  go_simp
  go_at_call 80
  refine (field_n _ _).mono ?_
  rintro e w4 ⟨rfl, hb⟩
  have E4 := Lib.hid (E0.out.below hb)
  refine hK.out _ _ (gb_trans hHeld (gb_below hb _)) (fun hHeld => ?_)
  clear hb
  clear hK K
  refine wpAnyH_ready (rs := [8]) (by kernel_rfl) (by simp) ?_
  refine AllReadyH.cons rfl (fun K hK => ?_) AllReadyH.nil
  go_simp
  go_at_call 80
  refine (field_n _ _).mono ?_
  rintro e w8 ⟨rfl, hb⟩
  have E8 := Lib.hid (E4.out.below hb)
  refine hK.out _ _ (gb_trans hHeld (gb_below hb _)) (fun hHeld => ?_)
  clear hb
  clear hK K
  refine wpAnyH_ready (rs := [13]) (by kernel_rfl) (by simp) ?_
  refine AllReadyH.cons rfl (fun K hK => ?_) AllReadyH.nil
  go_simp
  go_at_call 80
  refine (field_n _ _).mono ?_
  rintro e w13 ⟨rfl, hb⟩
  have E13 := Lib.hid (E8.out.below hb)
  refine hK.out _ _ (gb_trans hHeld (gb_below hb _)) (fun hHeld => ?_)
  clear hb
  clear hK K
  refine wpAnyH_ready (rs := [18]) (by kernel_rfl) (by simp) ?_
  refine AllReadyH.cons rfl (fun K hK => ?_) AllReadyH.nil
  go_simp
  go_at_call 80
  refine (field_n _ _).mono ?_
  rintro e w18 ⟨rfl, hb⟩
  have E18 := Lib.hid (E13.out.below hb)
  refine hK.out _ _ (gb_trans hHeld (gb_below hb _)) (fun hHeld => ?_)
  clear hb
  clear hK K
  refine wpAnyH_ready (rs := [22]) (by kernel_rfl) (by simp) ?_
  refine AllReadyH.cons rfl (fun K hK => ?_) AllReadyH.nil
  go_simp
  go_at_call 80
  refine (field_n _ _).mono ?_
  rintro e w22 ⟨rfl, hb⟩
  have E22 := Lib.hid (E18.out.below hb)
  refine hK.out _ _ (gb_trans hHeld (gb_below hb _)) (fun hHeld => ?_)
  clear hb
  clear hK K
  refine wpAnyH_ready (rs := [25]) (by kernel_rfl) (by simp) ?_
  refine AllReadyH.cons rfl (fun K hK => ?_) AllReadyH.nil
  go_simp
  go_at_call 75
  refine (field_t _ _).mono ?_
  rintro e w25 ⟨rfl, hb⟩
  have E25 := Lib.hid (E22.out.below hb)
  refine hK.out _ _ (gb_trans hHeld (gb_below hb _)) (fun hHeld => ?_)
  clear hb
  clear hK K
  refine wpAnyH_ready (rs := [28]) (by kernel_rfl) (by simp) ?_
  refine AllReadyH.cons rfl (fun K hK => ?_) AllReadyH.nil
  go_simp
  have E28 : Hid (ErrAt (w25.alloc (.cells #[.int .i64 i1, .string ⟨#[]⟩, .bool false, .int .i64 i2, .string ⟨#[]⟩, .bool false, .int .i64 v1, .string ⟨#[]⟩, .bool false, .int .i64 v2, .string ⟨#[]⟩, .bool false, .int .i64 tt, .string ⟨#[]⟩, .bool false, .int .i64 0, .string pb, .bool true, .int .i64 on, .string ot, .bool oT, .int .i64 1, .string ⟨#[]⟩, .bool false] 120)) c ok) := Lib.hid (E25.out.new _)
  have F28 : Hid (FieldsAt (w25.alloc (.cells #[.int .i64 i1, .string ⟨#[]⟩, .bool false, .int .i64 i2, .string ⟨#[]⟩, .bool false, .int .i64 v1, .string ⟨#[]⟩, .bool false, .int .i64 v2, .string ⟨#[]⟩, .bool false, .int .i64 tt, .string ⟨#[]⟩, .bool false, .int .i64 0, .string pb, .bool true, .int .i64 on, .string ot, .bool oT, .int .i64 1, .string ⟨#[]⟩, .bool false] 120)) w25.heap.size 0 [flN i1, flN i2, flN v1, flN v2, flN tt, flT p, ⟨on, ot, oT⟩, flN 1]) := Lib.hid (FF.out w25)
  refine hK.out _ _ (gb_new hHeld _) (fun hHeld => ?_)
  clear hK K
  refine wpAnyH_ready (rs := [29]) (by kernel_rfl) (by simp) ?_
  refine AllReadyH.cons rfl (fun K hK => ?_) AllReadyH.nil
  go_simp
  refine (LY.out _ _ E28.out F28.out (by simp)).mono ?_
  rintro e w9 ⟨rfl, h8, h9⟩
  have E9 := Lib.hid h8
  have G9 := Lib.hid (gb_trans hHeld h9)
  refine hK.out _ _ G9.out (fun hHeld => ?_)
  clear h8 h9
  clear hK K
  refine wpAnyH_td (i := 30) rfl ?_
  simp only [zz]
  refine wpAnyH_done (by kernel_rfl) ?_ _
  go_wp2_with fail
  go_ret
  exact ⟨rfl, E9.out, gb_trans G01.out G9.out⟩
theorem pck_layUpd {id : FuncId} (L : Lays id) {w : World} {c : Nat} {ok : Bool} (x : Upd.U) (UO : UpdateOk) (hx : Pck.OkUpd x) (hb : Upd.Bd x) (hE : ErrAt w c ok) :
  Calls Try.prog 34 #[.func (.func id) #[] #[.pointer (some ⟨c, 0, none⟩)], upA x] w (PutTo w c ok (Pck.upd x)) := by
 have ME := Lib.hid (fun W => UO.toMeta (w := W) x hb)
 have AR := Lib.hid (fun (W : World) (h : ErrAt W c ok) => pck_around L (Upd.meta_ x) (flT x.data) (Pck.right_nn ((Pck.okUpd_iff x).1 hx).1 hb.item) (Pck.rightS_nn ((Pck.okUpd_iff x).1 hx).2.1 hb.stamp) hb.path (flT_ok (by have := hb.data; omega)) h)
 rw [flT_all] at AR
 have HP : Hid (Pck.upd x = Pck.ver (Upd.meta_ x).item ++ (Pck.stp (Upd.meta_ x).stamp ++ (Pck.txt (Upd.meta_ x).path ++ (Pck.txt x.data ++ Pck.bit (Upd.meta_ x).dead)))) := Lib.hid rfl
 rw [← HP.out] at AR
 clear HP
 generalize Pck.upd x = enc at *
 clear hx hb UO
 obtain ⟨⟨i1, i2⟩, ⟨tt, ⟨v1, v2⟩⟩, p, d, dd⟩ := x
 dsimp only [upA, mtA, Upd.meta_, flT] at AR ME ⊢
 generalize mk p = pb at *
 generalize mk d = db at *
 generalize ((d.length : Nat) : Int) = sz at *
 have hcw := Row.inHeap hE
 have Hsz : Hid ((Try.prog.info? 27).map (·.size) = some 8) := Lib.hid (by kernel_rfl)
 have Hfu : Hid (∃ d, Try.prog.underlying 27 = some d ∧ d.isRow = true) := Lib.hid ⟨_, Try.underlying27, rfl⟩
 have hbox := Row.made w 27 #[.int .i64 i1, .int .i64 i2, .int .i64 v1, .int .i64 v2, .int .i64 tt, .string pb, .string db, .bool dd]
 have HX : Hid (∀ W : World, (w.alloc (.cells #[.int .i64 i1, .int .i64 i2, .int .i64 v1, .int .i64 v2, .int .i64 tt, .string pb, .string db, .bool dd] 27)).grownBy W (some c) → Row W w.heap.size 27 #[.int .i64 i1, .int .i64 i2, .int .i64 v1, .int .i64 v2, .int .i64 tt, .string pb, .string db, .bool dd]) := Lib.hid (fun W hW => hbox.grown hW (fun e => by injection e with e; omega))
 have E0 : Hid (ErrAt (w.alloc (.cells #[.int .i64 i1, .int .i64 i2, .int .i64 v1, .int .i64 v2, .int .i64 tt, .string pb, .string db, .bool dd] 27)).drew c ok) := Lib.hid (hE.new _)
 have G0 : Hid (w.grownBy (w.alloc (.cells #[.int .i64 i1, .int .i64 i2, .int .i64 v1, .int .i64 v2, .int .i64 tt, .string pb, .string db, .bool dd] 27)) (some c)) := Lib.hid (gb_new (gb_refl _ _) _)
 clear hE hbox hcw L
 go_enter Try.func34, Try.ntmps34
 go_wp2_with fail
 refine wp_region_held_drew (S := (fun w' : World => (w.alloc (.cells #[.int .i64 i1, .int .i64 i2, .int .i64 v1, .int .i64 v2, .int .i64 tt, .string pb, .string db, .bool dd] 27)).grownBy w' (some c))) (by kernel_rfl) (gb_draw (gb_refl _ _)) (fun hHeld => ?_)
 refine wpAnyH_td (i := 0) rfl ?_
 simp only [zz]
 refine wpAnyH_tk (i := 1) (v := .agg #[.int .i64 i1, .int .i64 i2, .int .i64 v1, .int .i64 v2, .int .i64 tt, .string pb, .string db, .bool dd]) rfl (Or.inl ⟨by rfl, (by intro w hSw; exact exec_mload (by rfl) (by rfl) (row_lies (cs := [.int .i64 i1, .int .i64 i2, .int .i64 v1, .int .i64 v2, .int .i64 tt, .string pb, .string db, .bool dd]) (HX.out _ hSw) Hfu.out Hsz.out))⟩) (by assumption) ?_
 simp only [zz]
 refine wpAnyH_td (i := 3) rfl ?_
 simp only [zz]
 refine wpAnyH_tk (i := 4) (v := ?_) rfl (Or.inl ⟨by rfl, (by intro w hSw; have c6 := (HX.out _ hSw).at 6; go_simp; try with_reducible rfl)⟩) (by assumption) ?_
 simp only [zz]
 refine wpAnyH_ready (rs := [2]) (by kernel_rfl) (by simp) ?_
 refine AllReadyH.cons rfl (fun K hK => ?_) AllReadyH.nil
 go_simp
 go_at_call 73
 refine (ME.out _).mono ?_
 rintro e w2 ⟨rfl, hb⟩
 have E2 := Lib.hid (E0.out.below hb)
 refine hK.out _ _ (gb_trans hHeld (gb_below hb _)) (fun hHeld => ?_)
 clear hb
 clear hK K
 refine wpAnyH_ready (rs := [5]) (by kernel_rfl) (by simp) ?_
 refine AllReadyH.cons rfl (fun K hK => ?_) AllReadyH.nil
 go_simp
 go_at_call 75
 refine (field_t _ _).mono ?_
 rintro e w5 ⟨rfl, hb⟩
 have E5 := Lib.hid (E2.out.below hb)
 refine hK.out _ _ (gb_trans hHeld (gb_below hb _)) (fun hHeld => ?_)
 clear hb
 clear hK K
 refine wpAnyH_ready (rs := [6]) (by kernel_rfl) (by simp) ?_
 refine AllReadyH.cons rfl (fun K hK => ?_) AllReadyH.nil
 go_simp
 go_at_call 74
 refine (AR.out _ E5.out).mono ?_
 rintro e w9 ⟨rfl, h8, h9⟩
 have E9 := Lib.hid h8
 have G9 := Lib.hid (gb_trans hHeld h9)
 refine hK.out _ _ G9.out (fun hHeld => ?_)
 clear h8 h9
 clear hK K
 refine wpAnyH_td (i := 7) rfl ?_
 simp only [zz]
 refine wpAnyH_done (by kernel_rfl) ?_ _
 go_wp2_with fail
 go_ret
 exact ⟨rfl, E9.out, gb_trans G0.out G9.out⟩
theorem pck_layMet {id : FuncId} (L : Lays id) {w : World} {c : Nat} {ok : Bool} (x : Upd.M) (hx : Pck.OkMet x) (hb : Upd.BdM x) (hE : ErrAt w c ok) :
  Calls Try.prog 37 #[.func (.func id) #[] #[.pointer (some ⟨c, 0, none⟩)], mtA x] w (PutTo w c ok (Pck.met x)) := by
 have AR := Lib.hid (fun (W : World) (h : ErrAt W c ok) => pck_around L x (flN x.size) (Pck.right_nn ((Pck.okMet_iff x).1 hx).1 hb.item) (Pck.rightS_nn ((Pck.okMet_iff x).1 hx).2.1 hb.stamp) hb.path (flN_ok ((Pck.okMet_iff x).1 hx).2.2.2.2.1 hb.size.2) h)
 rw [flN_all] at AR
 have HP : Hid (Pck.met x = Pck.ver x.item ++ (Pck.stp x.stamp ++ (Pck.txt x.path ++ (Pck.num x.size ++ Pck.bit x.dead)))) := Lib.hid rfl
 rw [← HP.out] at AR
 clear HP
 generalize Pck.met x = enc at *
 clear hx hb
 obtain ⟨⟨i1, i2⟩, ⟨tt, ⟨v1, v2⟩⟩, p, sz, dd⟩ := x
 dsimp only [mtA, flN] at AR ⊢
 generalize mk p = pb at *
 have hcw := Row.inHeap hE
 have Hsz : Hid ((Try.prog.info? 29).map (·.size) = some 8) := Lib.hid (by kernel_rfl)
 have Hfu : Hid (∃ d, Try.prog.underlying 29 = some d ∧ d.isRow = true) := Lib.hid ⟨_, Try.underlying29, rfl⟩
 have hbox := Row.made w 29 #[.int .i64 i1, .int .i64 i2, .int .i64 v1, .int .i64 v2, .int .i64 tt, .string pb, .int .i64 sz, .bool dd]
 have HX : Hid (∀ W : World, (w.alloc (.cells #[.int .i64 i1, .int .i64 i2, .int .i64 v1, .int .i64 v2, .int .i64 tt, .string pb, .int .i64 sz, .bool dd] 29)).grownBy W (some c) → Row W w.heap.size 29 #[.int .i64 i1, .int .i64 i2, .int .i64 v1, .int .i64 v2, .int .i64 tt, .string pb, .int .i64 sz, .bool dd]) := Lib.hid (fun W hW => hbox.grown hW (fun e => by injection e with e; omega))
 have E0 : Hid (ErrAt (w.alloc (.cells #[.int .i64 i1, .int .i64 i2, .int .i64 v1, .int .i64 v2, .int .i64 tt, .string pb, .int .i64 sz, .bool dd] 29)).drew c ok) := Lib.hid (hE.new _)
 have G0 : Hid (w.grownBy (w.alloc (.cells #[.int .i64 i1, .int .i64 i2, .int .i64 v1, .int .i64 v2, .int .i64 tt, .string pb, .int .i64 sz, .bool dd] 29)) (some c)) := Lib.hid (gb_new (gb_refl _ _) _)
 clear hE hbox hcw L
 go_enter Try.func37, Try.ntmps37
 go_wp2_with fail
 refine wp_region_held_drew (S := (fun w' : World => (w.alloc (.cells #[.int .i64 i1, .int .i64 i2, .int .i64 v1, .int .i64 v2, .int .i64 tt, .string pb, .int .i64 sz, .bool dd] 29)).grownBy w' (some c))) (by kernel_rfl) (gb_draw (gb_refl _ _)) (fun hHeld => ?_)
 refine wpAnyH_td (i := 0) rfl ?_
 simp only [zz]
 refine wpAnyH_tk (i := 1) (v := .agg #[.int .i64 i1, .int .i64 i2, .int .i64 v1, .int .i64 v2, .int .i64 tt, .string pb, .int .i64 sz, .bool dd]) rfl (Or.inl ⟨by rfl, (by intro w hSw; exact exec_mload (by rfl) (by rfl) (row_lies (cs := [.int .i64 i1, .int .i64 i2, .int .i64 v1, .int .i64 v2, .int .i64 tt, .string pb, .int .i64 sz, .bool dd]) (HX.out _ hSw) Hfu.out Hsz.out))⟩) (by assumption) ?_
 simp only [zz]
 refine wpAnyH_td (i := 2) rfl ?_
 simp only [zz]
 refine wpAnyH_tk (i := 3) (v := ?_) rfl (Or.inl ⟨by rfl, (by intro w hSw; have c6 := (HX.out _ hSw).at 6; go_simp; try with_reducible rfl)⟩) (by assumption) ?_
 simp only [zz]
 refine wpAnyH_ready (rs := [4]) (by kernel_rfl) (by simp) ?_
 refine AllReadyH.cons rfl (fun K hK => ?_) AllReadyH.nil
 go_simp
 go_at_call 80
 refine (field_n _ _).mono ?_
 rintro e w4 ⟨rfl, hb⟩
 have E4 := Lib.hid (E0.out.below hb)
 refine hK.out _ _ (gb_trans hHeld (gb_below hb _)) (fun hHeld => ?_)
 clear hb
 clear hK K
 refine wpAnyH_ready (rs := [5]) (by kernel_rfl) (by simp) ?_
 refine AllReadyH.cons rfl (fun K hK => ?_) AllReadyH.nil
 go_simp
 go_at_call 74
 refine (AR.out _ E4.out).mono ?_
 rintro e w9 ⟨rfl, h8, h9⟩
 have E9 := Lib.hid h8
 have G9 := Lib.hid (gb_trans hHeld h9)
 refine hK.out _ _ G9.out (fun hHeld => ?_)
 clear h8 h9
 clear hK K
 refine wpAnyH_td (i := 6) rfl ?_
 simp only [zz]
 refine wpAnyH_done (by kernel_rfl) ?_ _
 go_wp2_with fail
 go_ret
 exact ⟨rfl, E9.out, gb_trans G0.out G9.out⟩
open Go.RowKit Go.Sort
theorem pck_put_upd (UO : UpdateOk) (u : Upd.U) (hb : Upd.Bd u) (w : World) :
  Calls Try.prog 32 #[upA u, .bool (decide (Pck.OkUpd u)), .func (.func 34) #[] #[]] w fun e w' => e = .returned (.tuple #[.string (mk (Pck.putOf (Pck.OkUpd u) (Pck.upd u)).1), .int .i64 (Pck.putOf (Pck.OkUpd u) (Pck.upd u)).2]) ∧ Below w.heap.size w w' := by
 by_cases hok : Pck.OkUpd u
 ·rw [decide_eq_true hok, Pck.putOf_true hok]
  dsimp only
  have E0 : Hid (ErrAt ((w.alloc (.cells #[.int .i64 u.item.by_, .int .i64 u.item.n, .int .i64 u.stamp.v.by_, .int .i64 u.stamp.v.n, .int .i64 u.stamp.time, .string (mk u.path), .string (mk u.data), .bool u.dead] 27)).alloc (.cells #[.int .i64 0] 32)) (w.heap.size + 1) true) := Lib.hid (by
   have := Row.made (w.alloc (.cells #[.int .i64 u.item.by_, .int .i64 u.item.n, .int .i64 u.stamp.v.by_, .int .i64 u.stamp.v.n, .int .i64 u.stamp.time, .string (mk u.path), .string (mk u.data), .bool u.dead] 27)) 32 #[.int .i64 0]
   rw [World.size_alloc] at this
   exact this)
  have LW0 := pck_layUpd lays_upd u UO hok hb E0.out
  have G0 : Hid (Below w.heap.size w ((w.alloc (.cells #[.int .i64 u.item.by_, .int .i64 u.item.n, .int .i64 u.stamp.v.by_, .int .i64 u.stamp.v.n, .int .i64 u.stamp.time, .string (mk u.path), .string (mk u.data), .bool u.dead] 27)).alloc (.cells #[.int .i64 0] 32))) := Lib.hid (((Below.refl _ _).alloc (Nat.le_refl _) _).alloc (by simp) _)
  have LL := Lib.hid LW0
  unfold PutTo at LL
  generalize Pck.upd u = enc at *
  clear LW0 E0 hok hb UO
  have HT : Hid (Pck.bsTo true enc = Pck.bsTo true enc) := Lib.hid rfl
  generalize Pck.okTo true enc = oo at *
  generalize hbs : mk (Pck.bsTo true enc) = B at *
  clear hbs HT
  obtain ⟨r, hr⟩ : ∃ r : Int, (if oo then (0 : Int) else 4) = r := ⟨_, rfl⟩
  rw [hr]
  have HR := Lib.hid hr
  clear hr
  go_enter Try.func32, Try.ntmps32
  go_wp2_with fail
  refine LL.out.mono ?_
  rintro e w1 ⟨rfl, h1, h2⟩
  have c1 : w1.cell? ⟨w.heap.size + 1, 0, none⟩ = some (.int .i64 r) := by rw [← HR.out]; exact Row.at h1 0
  have B1 := Lib.hid (gb_out G0.out h2 (by omega))
  clear h1 h2 HR
  go_wp2_with fail
  go_quiet (fail)
  go_wp2_with fail
  go_ret2
  exact ⟨rfl, below_drawsN B1.out _⟩
 ·rw [decide_eq_false hok, Pck.put_bad hok]
  dsimp only
  have G0 : Hid (Below w.heap.size w (w.alloc (.cells #[.int .i64 u.item.by_, .int .i64 u.item.n, .int .i64 u.stamp.v.by_, .int .i64 u.stamp.v.n, .int .i64 u.stamp.time, .string (mk u.path), .string (mk u.data), .bool u.dead] 27))) := Lib.hid ((Below.refl _ _).alloc (Nat.le_refl _) _)
  clear hok hb UO
  go_enter Try.func32, Try.ntmps32
  go_wp2_with fail
  go_ret2
  exact ⟨rfl, G0.out⟩
theorem pck_put_met (u : Upd.M) (hb : Upd.BdM u) (w : World) :
  Calls Try.prog 35 #[mtA u, .bool (decide (Pck.OkMet u)), .func (.func 37) #[] #[]] w fun e w' => e = .returned (.tuple #[.string (mk (Pck.putOf (Pck.OkMet u) (Pck.met u)).1), .int .i64 (Pck.putOf (Pck.OkMet u) (Pck.met u)).2]) ∧ Below w.heap.size w w' := by
 by_cases hok : Pck.OkMet u
 ·rw [decide_eq_true hok, Pck.putOf_true hok]
  dsimp only
  have E0 : Hid (ErrAt ((w.alloc (.cells #[.int .i64 u.item.by_, .int .i64 u.item.n, .int .i64 u.stamp.v.by_, .int .i64 u.stamp.v.n, .int .i64 u.stamp.time, .string (mk u.path), .int .i64 u.size, .bool u.dead] 29)).alloc (.cells #[.int .i64 0] 32)) (w.heap.size + 1) true) := Lib.hid (by
   have := Row.made (w.alloc (.cells #[.int .i64 u.item.by_, .int .i64 u.item.n, .int .i64 u.stamp.v.by_, .int .i64 u.stamp.v.n, .int .i64 u.stamp.time, .string (mk u.path), .int .i64 u.size, .bool u.dead] 29)) 32 #[.int .i64 0]
   rw [World.size_alloc] at this
   exact this)
  have LW0 := pck_layMet lays_met u hok hb E0.out
  have G0 : Hid (Below w.heap.size w ((w.alloc (.cells #[.int .i64 u.item.by_, .int .i64 u.item.n, .int .i64 u.stamp.v.by_, .int .i64 u.stamp.v.n, .int .i64 u.stamp.time, .string (mk u.path), .int .i64 u.size, .bool u.dead] 29)).alloc (.cells #[.int .i64 0] 32))) := Lib.hid (((Below.refl _ _).alloc (Nat.le_refl _) _).alloc (by simp) _)
  have LL := Lib.hid LW0
  unfold PutTo at LL
  generalize Pck.met u = enc at *
  clear LW0 E0 hok hb
  have HT : Hid (Pck.bsTo true enc = Pck.bsTo true enc) := Lib.hid rfl
  generalize Pck.okTo true enc = oo at *
  generalize hbs : mk (Pck.bsTo true enc) = B at *
  clear hbs HT
  obtain ⟨r, hr⟩ : ∃ r : Int, (if oo then (0 : Int) else 4) = r := ⟨_, rfl⟩
  rw [hr]
  have HR := Lib.hid hr
  clear hr
  go_enter Try.func35, Try.ntmps35
  go_wp2_with fail
  refine LL.out.mono ?_
  rintro e w1 ⟨rfl, h1, h2⟩
  have c1 : w1.cell? ⟨w.heap.size + 1, 0, none⟩ = some (.int .i64 r) := by rw [← HR.out]; exact Row.at h1 0
  have B1 := Lib.hid (gb_out G0.out h2 (by omega))
  clear h1 h2 HR
  go_wp2_with fail
  go_quiet (fail)
  go_wp2_with fail
  go_ret2
  exact ⟨rfl, below_drawsN B1.out _⟩
 ·rw [decide_eq_false hok, Pck.put_bad hok]
  dsimp only
  have G0 : Hid (Below w.heap.size w (w.alloc (.cells #[.int .i64 u.item.by_, .int .i64 u.item.n, .int .i64 u.stamp.v.by_, .int .i64 u.stamp.v.n, .int .i64 u.stamp.time, .string (mk u.path), .int .i64 u.size, .bool u.dead] 29))) := Lib.hid ((Below.refl _ _).alloc (Nat.le_refl _) _)
  clear hok hb
  go_enter Try.func35, Try.ntmps35
  go_wp2_with fail
  go_ret2
  exact ⟨rfl, G0.out⟩
end Go.Proofs.Ytkacfmaogiblfaa
