import Derived.Test.YtpafpegcodempaaGreatCom12
import Derived.Test.YtpafpegcodempaaGreatCom10
import Derived.Test.YtpafpegcodempaaGreatCom13
set_option maxRecDepth 100000
set_option linter.all false
set_option maxHeartbeats 12800000
namespace Go.Proofs.YtpafpegcodempaaGreat
open Go.RowKit Go.Sort
theorem Pck.ok_step (ok : Bool) (a : List UInt8) (g : List UInt8 → List UInt8) (hg : ∀ t, t.length ≤ (g t).length) : Pck.okTo (Pck.okTo ok a) (g (Pck.bsTo ok a)) = Pck.okTo ok (g a) ∧ Pck.bsTo (Pck.okTo ok a) (g (Pck.bsTo ok a)) = Pck.bsTo ok (g a) := by
 cases h : Pck.okTo ok a with
 | true =>
  have hb : Pck.bsTo ok a = a := by unfold Pck.bsTo; rw [if_pos h]
  have ho : ok = true := by
   unfold Pck.okTo at h
   rw [Bool.and_eq_true] at h
   exact h.1
  rw [hb, ho]
  exact ⟨rfl, rfl⟩
 | false =>
  have hf : Pck.okTo ok (g a) = false := by
   cases ok with
   | false => rfl
   | true =>
    unfold Pck.okTo at h ⊢
    rw [Bool.true_and, decide_eq_false_iff_not] at h ⊢
    have := hg a
    omega
  refine ⟨by rw [hf]; rfl, ?_⟩
  have : Pck.bsTo ok (g a) = [] := by unfold Pck.bsTo; rw [hf]; rfl
  rw [this]
  rfl
theorem Pck.txt_ge (t r : List UInt8) : t.length ≤ (Pck.txt t ++ r).length := by
 unfold Pck.txt
 simp only [List.length_append]
 omega
theorem Pck.two_to (ok : Bool) (a b : List UInt8) : ∀ (s1 s2 : List UInt8) (o1 o2 : Bool), s1 = Pck.bsTo ok a → o1 = Pck.okTo ok a → s2 = Pck.bsTo o1 b → o2 = Pck.okTo o1 b → Pck.okTo o2 (Pck.txt s1 ++ Pck.txt s2) = Pck.okTo ok (Pck.txt a ++ Pck.txt b) ∧ Pck.bsTo o2 (Pck.txt s1 ++ Pck.txt s2) = Pck.bsTo ok (Pck.txt a ++ Pck.txt b) := by
 rintro s1 s2 o1 o2 e1 e2 e3 e4
 have h2 := Pck.ok_step o1 b (fun t => Pck.txt s1 ++ Pck.txt t) (fun t => by have := Pck.txt_ge t []; simp only [List.append_nil] at this; simp only [List.length_append]; omega)
 have h1 := Pck.ok_step ok a (fun t => Pck.txt t ++ Pck.txt b) (fun t => Pck.txt_ge t _)
 rw [← e3, ← e4] at h2
 rw [← e1, ← e2] at h1
 exact ⟨h2.1.trans h1.1, h2.2.trans h1.2⟩
theorem Pck.three_to (ok : Bool) (a b d : List UInt8) : ∀ (s1 s2 s3 : List UInt8) (o1 o2 o3 : Bool), s1 = Pck.bsTo ok a → o1 = Pck.okTo ok a → s2 = Pck.bsTo o1 b → o2 = Pck.okTo o1 b → s3 = Pck.bsTo o2 d → o3 = Pck.okTo o2 d → Pck.okTo o3 (Pck.txt s1 ++ (Pck.txt s2 ++ Pck.txt s3)) = Pck.okTo ok (Pck.txt a ++ (Pck.txt b ++ Pck.txt d)) ∧ Pck.bsTo o3 (Pck.txt s1 ++ (Pck.txt s2 ++ Pck.txt s3)) = Pck.bsTo ok (Pck.txt a ++ (Pck.txt b ++ Pck.txt d)) := by
 rintro s1 s2 s3 o1 o2 o3 e1 e2 e3 e4 e5 e6
 have h3 := Pck.ok_step o2 d (fun t => Pck.txt s1 ++ (Pck.txt s2 ++ Pck.txt t)) (fun t => by have := Pck.txt_ge t []; simp only [List.append_nil] at this; simp only [List.length_append]; omega)
 have h2 := Pck.ok_step o1 b (fun t => Pck.txt s1 ++ (Pck.txt t ++ Pck.txt d)) (fun t => by have := Pck.txt_ge t (Pck.txt d); simp only [List.length_append] at this ⊢; omega)
 have h1 := Pck.ok_step ok a (fun t => Pck.txt t ++ (Pck.txt b ++ Pck.txt d)) (fun t => Pck.txt_ge t _)
 rw [← e5, ← e6] at h3
 rw [← e3, ← e4] at h2
 rw [← e1, ← e2] at h1
 exact ⟨h3.1.trans (h2.1.trans h1.1), h3.2.trans (h2.2.trans h1.2)⟩
theorem Pck.known_to (ok : Bool) (h b : List UInt8) : ∀ (s : List UInt8) (o : Bool), s = Pck.bsTo ok b → o = Pck.okTo ok b → Pck.okTo o (h ++ Pck.txt s) = Pck.okTo ok (h ++ Pck.txt b) ∧ Pck.bsTo o (h ++ Pck.txt s) = Pck.bsTo ok (h ++ Pck.txt b) := by
 rintro s o e1 e2
 have h1 := Pck.ok_step ok b (fun t => h ++ Pck.txt t) (fun t => by have := Pck.txt_ge t []; simp only [List.append_nil] at this; simp only [List.length_append]; omega)
 rwa [← e1, ← e2] at h1
theorem PutTo.is {w : World} {c : Nat} {ok o : Bool} {a b : List UInt8} {e : Ending} {w' : World} (h : PutTo w c o a e w') (k : Pck.okTo o a = Pck.okTo ok b ∧ Pck.bsTo o a = Pck.bsTo ok b) : PutTo w c ok b e w' := by
 unfold PutTo at *
 rwa [k.1, k.2] at h
theorem Pck.lst_map {α β : Type} (f : β → List UInt8) (g : α → β) (l : List α) : Pck.lst (fun x => f (g x)) l = Pck.lst f (l.map g) := by
 unfold Pck.lst
 rw [List.length_map, List.flatMap_map]
theorem gb_kc {w W : World} {c : Nat} (h : w.grownBy W (some c)) : Kept (fun i => i = c) w W := Kept.ofGrown h (fun i e => by injection e with e; exact e.symm)
theorem pck_list_of_frag (w : World) : Calls Tryz.prog 174 #[.func (.func 175) #[] #[]] w fun e w' =>
  ∃ c2, e = .returned (.func (.func 274) #[] #[.pointer (some ⟨c2, 0, none⟩)]) ∧ w.heap.size ≤ c2 ∧ Row w' c2 217 #[.func (.func 175) #[] #[]] ∧ Below w.heap.size w w' := by
 have R := Lib.hid (Row.made w 217 #[.func (.func 175) #[] #[]])
 have hb := Lib.hid ((Below.refl w.heap.size w).alloc (Nat.le_refl _) (.cells #[.func (.func 175) #[] #[]] 217))
 go_enter Tryz.func174, Tryz.ntmps174
 go_wp2_with fail
 go_ret
 exact ⟨_, rfl, Nat.le_refl _, R.out, hb.out⟩
theorem pck_list_of_known (w : World) : Calls Tryz.prog 176 #[.func (.func 177) #[] #[]] w fun e w' =>
  ∃ c2, e = .returned (.func (.func 275) #[] #[.pointer (some ⟨c2, 0, none⟩)]) ∧ w.heap.size ≤ c2 ∧ Row w' c2 220 #[.func (.func 177) #[] #[]] ∧ Below w.heap.size w w' := by
 have R := Lib.hid (Row.made w 220 #[.func (.func 177) #[] #[]])
 have hb := Lib.hid ((Below.refl w.heap.size w).alloc (Nat.le_refl _) (.cells #[.func (.func 177) #[] #[]] 220))
 go_enter Tryz.func176, Tryz.ntmps176
 go_wp2_with fail
 go_ret
 exact ⟨_, rfl, Nat.le_refl _, R.out, hb.out⟩
theorem pck_layFrag (V : VecOk) {id : FuncId} (L : Lays id) {w : World} {c : Nat} {ok : Bool} {F : Nat → Prop} {r : RFr} (hr : r.In w F) (hF : ∀ i, F i → i ≠ c) (hok : Pck.OkFrag r.x) (hb : Pck.BdFr r.x) (hE : ErrAt w c ok) :
  Calls Tryz.prog 175 #[.func (.func id) #[] #[.pointer (some ⟨c, 0, none⟩)], frA r] w (PutTo w c ok (Pck.frag r.x)) := by
 have hcf := run_callFunc_own L.there
 have hcw : c < w.heap.size := Row.inHeap hE
 obtain ⟨s1, e1⟩ : ∃ s, s = Pck.bsTo ok (Pck.flt r.x.f) := ⟨_, rfl⟩
 obtain ⟨ok1, o1⟩ : ∃ o, o = Pck.okTo ok (Pck.flt r.x.f) := ⟨_, rfl⟩
 obtain ⟨s2, e2⟩ : ∃ s, s = Pck.bsTo ok1 (Pck.vec r.x.v) := ⟨_, rfl⟩
 obtain ⟨ok2, o2⟩ : ∃ o, o = Pck.okTo ok1 (Pck.vec r.x.v) := ⟨_, rfl⟩
 obtain ⟨s3, e3⟩ : ∃ s, s = Pck.bsTo ok2 (Pck.vers r.x.no) := ⟨_, rfl⟩
 obtain ⟨ok3, o3⟩ : ∃ o, o = Pck.okTo ok2 (Pck.vers r.x.no) := ⟨_, rfl⟩
 have l1 : s1.length ≤ 65536 := by rw [e1]; exact Pck.bsTo_len _ _
 have l2 : s2.length ≤ 65536 := by rw [e2]; exact Pck.bsTo_len _ _
 have l3 : s3.length ≤ 65536 := by rw [e3]; exact Pck.bsTo_len _ _
 have FO : ∀ f ∈ [flT s1, flT s2, flT s3], FlOk f := by
  intro f hf
  simp only [List.mem_cons, List.not_mem_nil, or_false] at hf
  rcases hf with rfl | rfl | rfl
  ·exact flT_ok (by omega)
  ·exact flT_ok (by omega)
  ·exact flT_ok (by omega)
 have AB : allBytes [flT s1, flT s2, flT s3] = Pck.txt s1 ++ (Pck.txt s2 ++ Pck.txt s3) := by simp only [allBytes, List.flatMap_cons, List.flatMap_nil, List.append_nil, flN_all, flT_all, List.append_assoc]
 have LY : Hid (∀ (W : World) (bk : Nat), ErrAt W c ok3 → FieldsAt W bk 0 [flT s1, flT s2, flT s3] → bk < W.heap.size → Calls Tryz.prog id #[.slice (some ⟨bk, 0, none⟩) 3 3, .pointer (some ⟨c, 0, none⟩)] W (PutTo W c ok (Pck.frag r.x))) := Lib.hid (fun W bk h1 h2 h3 => by
  have := L.lays (cap := 3) h1 h2 h3 (by simp) FO
  rw [AB] at this
  exact this.mono (fun e w' h => h.is (Pck.three_to ok _ _ _ s1 s2 s3 ok1 ok2 ok3 e1 o1 e2 o2 e3 o3)))
 have LC := Lib.hid (fun (W : World) (c2 : Nat) (g : w.grownBy W (some c)) (h1 : ErrAt W c ok) (h4 : W.cell? ⟨c2, 0, none⟩ = _) (h5 : c2 ≠ c) => pck_lay_cls L h1 (hr.f.kept (gb_kc g) hF) hF h4 h5 (by have := hok.1.1; omega) hok.1.2)
 have LV := Lib.hid (fun (W : World) (h1 : ErrAt W c ok1) => pck_layVec V L hr.len (fun n hn => (hb.vb n hn).2) h1)
 have LN := Lib.hid (fun (W : World) (c2 : Nat) (g : w.grownBy W (some c)) (h1 : ErrAt W c ok2) (h4 : W.cell? ⟨c2, 0, none⟩ = _) (h5 : c2 ≠ c) => pck_lay_vers L h1 (hr.no.kept (gb_kc g) hF) hF h4 h5 hb.nl (fun v hv => Pck.right_nnV (hok.2.2.1 v hv) (hb.nb v hv)))
 unfold PutTo at LC LV LN
 rw [show Pck.lst Pck.cl r.x.f = Pck.flt r.x.f from rfl, ← e1, ← o1] at LC
 rw [← e2, ← o2] at LV
 rw [show Pck.lst Pck.ver r.x.no = Pck.vers r.x.no from rfl, ← e3, ← o3] at LN
 have FF : Hid (∀ W : World, FieldsAt (W.alloc (.cells #[.int .i64 0, .string (mk s1), .bool true, .int .i64 0, .string (mk s2), .bool true, .int .i64 0, .string (mk s3), .bool true] 164)) W.heap.size 0 [flT s1, flT s2, flT s3]) := Lib.hid (fun W => fields_at (Rws.made W 164 [flT s1, flT s2, flT s3] (fun f _ => fl3_len f)) (by simp))
 have hbox := Row.made w 91 (rfV r).toArray
 have HX : Hid (∀ W : World, (w.alloc (.cells (rfV r).toArray 91)).grownBy W (some c) → W.cell? ⟨w.heap.size, 0, none⟩ = some r.fv ∧ W.cell? ⟨w.heap.size, 66, none⟩ = some r.nv ∧ Lies 32 W w.heap.size 1 (vecL r.x.v)) := Lib.hid (fun W hW => by
  have q := FrAt.row hr.len (hbox.grown hW (fun e => by injection e with e; omega))
  exact ⟨q.f, q.no0, q.v0⟩)
 have E0 : Hid (ErrAt (w.alloc (.cells (rfV r).toArray 91)).drew c ok) := Lib.hid (hE.new _)
 have G0 : Hid (w.grownBy (w.alloc (.cells (rfV r).toArray 91)) (some c)) := Lib.hid (gb_new (gb_refl _ _) _)
 unfold PutTo at LY ⊢
 generalize Pck.bsTo ok (Pck.frag r.x) = RS at *
 generalize Pck.okTo ok (Pck.frag r.x) = RO at *
 clear e1 o1 e2 o2 e3 o3 l1 l2 l3 FO AB hbox
 generalize mk s1 = B1 at *
 generalize mk s2 = B2 at *
 generalize mk s3 = B3 at *
 have HR := Lib.hid (And.intro hr.f.parts hr.no.parts)
 obtain ⟨⟨A, ca, h1, -⟩, ⟨A2, ca2, h2, -⟩⟩ := HR.out
 rw [h1] at LC
 rw [h2] at LN
 rw [h1, h2] at HX
 clear hE hcw hr hF hok hb L V HR h1 h2
 go_enter Tryz.func175, Tryz.ntmps175
 go_wp2_with fail
 refine wp_region_held_drew (S := (fun w' : World => (w.alloc (.cells (rfV r).toArray 91)).grownBy w' (some c))) (by kernel_rfl) (gb_draw (gb_refl _ _)) (fun hHeld => ?_)
 refine wpAnyH_td (i := 0) rfl ?_
 simp only [zz]
 refine wpAnyH_td (i := 2) rfl ?_
 simp only [zz]
 refine wpAnyH_td (i := 3) rfl ?_
 simp only [zz]
 refine wpAnyH_tk (i := 4) (v := ?_) rfl (Or.inl ⟨by rfl, (by intro w hSw; obtain ⟨d0, d66, dv⟩ := HX.out _ hSw; go_simp; try with_reducible rfl)⟩) (by assumption) ?_
 simp only [zz]
 refine wpAnyH_td (i := 7) rfl ?_
 simp only [zz]
 refine wpAnyH_td (i := 8) rfl ?_
 simp only [zz]
 refine wpAnyH_tk (i := 9) (v := .agg (vecL r.x.v).toArray) rfl (Or.inl ⟨by rfl, (by intro w hSw; exact exec_mload (by rfl) (by rfl) (HX.out _ hSw).2.2)⟩) (by assumption) ?_
 simp only [zz]
 refine wpAnyH_td (i := 13) rfl ?_
 simp only [zz]
 refine wpAnyH_td (i := 14) rfl ?_
 simp only [zz]
 refine wpAnyH_tk (i := 15) (v := ?_) rfl (Or.inl ⟨by rfl, (by intro w hSw; obtain ⟨d0, d66, dv⟩ := HX.out _ hSw; go_simp; try with_reducible rfl)⟩) (by assumption) ?_
 simp only [zz]
 refine wpAnyH_ready (rs := [1]) (by kernel_rfl) (by simp) ?_
 refine AllReadyH.cons rfl (fun K hK => ?_) AllReadyH.nil
 go_simp
 go_at_call 229
 refine (pck_list_of_cl _).mono ?_
 rintro e w1 ⟨c2, rfl, h7, h8, h9⟩
 have C1 := Lib.hid h8
 have N1 : Hid (c2 ≠ c) := Lib.hid (by have h6 := Row.inHeap E0.out; omega)
 have E1 := Lib.hid (E0.out.below h9)
 have G1 := Lib.hid (gb_trans hHeld (gb_below h9 (some c)))
 refine hK.out _ _ G1.out (fun hHeld => ?_)
 clear h7 h8 h9
 clear hK K
 refine wpAnyH_ready (rs := [5]) (by kernel_rfl) (by simp) ?_
 refine AllReadyH.cons rfl (fun K hK => ?_) AllReadyH.nil
 go_simp
 refine (LC.out _ _ (gb_trans G0.out G1.out) E1.out (C1.out.at 0) N1.out).mono ?_
 rintro e w5 ⟨rfl, h8, h9⟩
 have E5 := Lib.hid h8
 have G5 := Lib.hid (gb_trans hHeld h9)
 refine hK.out _ _ G5.out (fun hHeld => ?_)
 clear h8 h9
 clear hK K
 refine wpAnyH_ready (rs := [6]) (by kernel_rfl) (by simp) ?_
 refine AllReadyH.cons rfl (fun K hK => ?_) AllReadyH.nil
 go_simp
 go_at_call 173
 refine (field_t _ _).mono ?_
 rintro e w6 ⟨rfl, hb⟩
 have E6 := Lib.hid (E5.out.below hb)
 have G6 := Lib.hid (gb_trans hHeld (gb_below hb (some c)))
 refine hK.out _ _ G6.out (fun hHeld => ?_)
 clear hb
 clear hK K
 refine wpAnyH_ready (rs := [10]) (by kernel_rfl) (by simp) ?_
 refine AllReadyH.cons rfl (fun K hK => ?_) AllReadyH.nil
 go_simp
 refine (LV.out _ E6.out).mono ?_
 rintro e w10 ⟨rfl, h8, h9⟩
 have E10 := Lib.hid h8
 have G10 := Lib.hid (gb_trans hHeld h9)
 refine hK.out _ _ G10.out (fun hHeld => ?_)
 clear h8 h9
 clear hK K
 refine wpAnyH_ready (rs := [11]) (by kernel_rfl) (by simp) ?_
 refine AllReadyH.cons rfl (fun K hK => ?_) AllReadyH.nil
 go_simp
 go_at_call 173
 refine (field_t _ _).mono ?_
 rintro e w11 ⟨rfl, hb⟩
 have E11 := Lib.hid (E10.out.below hb)
 have G11 := Lib.hid (gb_trans hHeld (gb_below hb (some c)))
 refine hK.out _ _ G11.out (fun hHeld => ?_)
 clear hb
 clear hK K
 refine wpAnyH_ready (rs := [12]) (by kernel_rfl) (by simp) ?_
 refine AllReadyH.cons rfl (fun K hK => ?_) AllReadyH.nil
 go_simp
 go_at_call 235
 refine (pck_list_of_ver _).mono ?_
 rintro e w12 ⟨c3, rfl, h7, h8, h9⟩
 have C12 := Lib.hid h8
 have N12 : Hid (c3 ≠ c) := Lib.hid (by have h6 := Row.inHeap E11.out; omega)
 have E12 := Lib.hid (E11.out.below h9)
 have G12 := Lib.hid (gb_trans hHeld (gb_below h9 (some c)))
 refine hK.out _ _ G12.out (fun hHeld => ?_)
 clear h7 h8 h9
 clear hK K
 refine wpAnyH_ready (rs := [16]) (by kernel_rfl) (by simp) ?_
 refine AllReadyH.cons rfl (fun K hK => ?_) AllReadyH.nil
 go_simp
 refine (LN.out _ _ (gb_trans G0.out G12.out) E12.out (C12.out.at 0) N12.out).mono ?_
 rintro e w16 ⟨rfl, h8, h9⟩
 have E16 := Lib.hid h8
 have G16 := Lib.hid (gb_trans hHeld h9)
 refine hK.out _ _ G16.out (fun hHeld => ?_)
 clear h8 h9
 clear hK K
 refine wpAnyH_ready (rs := [17]) (by kernel_rfl) (by simp) ?_
 refine AllReadyH.cons rfl (fun K hK => ?_) AllReadyH.nil
 go_simp
 go_at_call 173
 refine (field_t _ _).mono ?_
 rintro e w17 ⟨rfl, hb⟩
 have E17 := Lib.hid (E16.out.below hb)
 have G17 := Lib.hid (gb_trans hHeld (gb_below hb (some c)))
 refine hK.out _ _ G17.out (fun hHeld => ?_)
 clear hb
 clear hK K
 refine wpAnyH_ready (rs := [18]) (by kernel_rfl) (by simp) ?_
 refine AllReadyH.cons rfl (fun K hK => ?_) AllReadyH.nil
 go_simp
 have E18 := Lib.hid (E17.out.new (.cells #[.int .i64 0, .string B1, .bool true, .int .i64 0, .string B2, .bool true, .int .i64 0, .string B3, .bool true] 164))
 have F18 := Lib.hid (FF.out w17)
 refine hK.out _ _ (gb_new hHeld _) (fun hHeld => ?_)
 clear hK K
 refine wpAnyH_ready (rs := [19]) (by kernel_rfl) (by simp) ?_
 refine AllReadyH.cons rfl (fun K hK => ?_) AllReadyH.nil
 go_simp
 refine (LY.out _ _ E18.out F18.out (by simp)).mono ?_
 rintro e w19 ⟨rfl, h8, h9⟩
 have E19 := Lib.hid h8
 have G19 := Lib.hid (gb_trans hHeld h9)
 refine hK.out _ _ G19.out (fun hHeld => ?_)
 clear h8 h9
 clear hK K
 refine wpAnyH_td (i := 20) rfl ?_
 simp only [zz]
 refine wpAnyH_done (by kernel_rfl) ?_ _
 go_wp2_with fail
 go_ret
 exact ⟨rfl, E19.out, gb_trans G0.out G19.out⟩
theorem pck_layKnown (V : VecOk) {id : FuncId} (L : Lays id) {w : World} {c : Nat} {ok : Bool} (x : Know.It) (hx : x.v.length = 65) (hok : Pck.OkKnown x) (hb : Pck.BdIt x) (hE : ErrAt w c ok) :
  Calls Tryz.prog 177 #[.func (.func id) #[] #[.pointer (some ⟨c, 0, none⟩)], itA x] w (PutTo w c ok (Pck.known x)) := by
 have hcf := run_callFunc_own L.there
 have hcw : c < w.heap.size := Row.inHeap hE
 have hnn := Pck.right_nnV hok.1 hb.ib
 obtain ⟨s, e1⟩ : ∃ s, s = Pck.bsTo ok (Pck.vec x.v) := ⟨_, rfl⟩
 obtain ⟨ok1, o1⟩ : ∃ o, o = Pck.okTo ok (Pck.vec x.v) := ⟨_, rfl⟩
 have l1 : s.length ≤ 65536 := by rw [e1]; exact Pck.bsTo_len _ _
 have FO : ∀ f ∈ [flN x.item.by_, flN x.item.n, flT s], FlOk f := by
  intro f hf
  simp only [List.mem_cons, List.not_mem_nil, or_false] at hf
  rcases hf with rfl | rfl | rfl
  ·exact flN_ok hnn.1.1 hnn.1.2
  ·exact flN_ok hnn.2.1 hnn.2.2
  ·exact flT_ok (by omega)
 have AB : allBytes [flN x.item.by_, flN x.item.n, flT s] = Pck.ver x.item ++ Pck.txt s := by
  unfold Pck.ver
  simp only [allBytes, List.flatMap_cons, List.flatMap_nil, List.append_nil, flN_all, flT_all, List.append_assoc]
 have LY : Hid (∀ (W : World) (bk : Nat), ErrAt W c ok1 → FieldsAt W bk 0 [flN x.item.by_, flN x.item.n, flT s] → bk < W.heap.size → Calls Tryz.prog id #[.slice (some ⟨bk, 0, none⟩) 3 3, .pointer (some ⟨c, 0, none⟩)] W (PutTo W c ok (Pck.known x))) := Lib.hid (fun W bk h1 h2 h3 => by
  have := L.lays (cap := 3) h1 h2 h3 (by simp) FO
  rw [AB] at this
  exact this.mono (fun e w' h => h.is (Pck.known_to ok _ _ s ok1 e1 o1)))
 have LV := Lib.hid (fun (W : World) (h1 : ErrAt W c ok) => pck_layVec V L hx (fun n hn => (hb.vb n hn).2) h1)
 unfold PutTo at LV
 rw [← e1, ← o1] at LV
 have FF : Hid (∀ W : World, FieldsAt (W.alloc (.cells #[.int .i64 x.item.by_, .string ⟨#[]⟩, .bool false, .int .i64 x.item.n, .string ⟨#[]⟩, .bool false, .int .i64 0, .string (mk s), .bool true] 164)) W.heap.size 0 [flN x.item.by_, flN x.item.n, flT s]) := Lib.hid (fun W => fields_at (Rws.made W 164 [flN x.item.by_, flN x.item.n, flT s] (fun f _ => fl3_len f)) (by simp))
 have hbox := Row.made w 127 (itV x).toArray
 have HX : Hid (∀ W : World, (w.alloc (.cells (itV x).toArray 127)).grownBy W (some c) → W.cell? ⟨w.heap.size, 0, none⟩ = some (.int .i64 x.item.by_) ∧ W.cell? ⟨w.heap.size, 1, none⟩ = some (.int .i64 x.item.n) ∧ Lies 32 W w.heap.size 2 (vecL x.v)) := Lib.hid (fun W hW => by
  have q := ItAt.row hx (hbox.grown hW (fun e => by injection e with e; omega))
  exact ⟨q.by_, q.n0, q.v0⟩)
 have E0 : Hid (ErrAt (w.alloc (.cells (itV x).toArray 127)).drew c ok) := Lib.hid (hE.new _)
 have G0 : Hid (w.grownBy (w.alloc (.cells (itV x).toArray 127)) (some c)) := Lib.hid (gb_new (gb_refl _ _) _)
 unfold PutTo at LY ⊢
 generalize Pck.bsTo ok (Pck.known x) = RS at *
 generalize Pck.okTo ok (Pck.known x) = RO at *
 clear e1 o1 l1 FO AB hbox hnn
 generalize mk s = B at *
 obtain ⟨⟨x1, x2⟩, xv⟩ := x
 dsimp only at HX LV FF LY
 clear hE hcw hx hok hb L V
 go_enter Tryz.func177, Tryz.ntmps177
 go_wp2_with fail
 refine wp_region_held_drew (S := (fun w' : World => (w.alloc (.cells (itV ⟨⟨x1, x2⟩, xv⟩).toArray 127)).grownBy w' (some c))) (by kernel_rfl) (gb_draw (gb_refl _ _)) (fun hHeld => ?_)
 refine wpAnyH_td (i := 0) rfl ?_
 simp only [zz]
 refine wpAnyH_td (i := 1) rfl ?_
 simp only [zz]
 refine wpAnyH_td (i := 2) rfl ?_
 simp only [zz]
 refine wpAnyH_tk (i := 3) (v := ?_) rfl (Or.inl ⟨by rfl, (by intro w hSw; obtain ⟨d0, d1, dv⟩ := HX.out _ hSw; go_simp; try with_reducible rfl)⟩) (by assumption) ?_
 simp only [zz]
 refine wpAnyH_td (i := 5) rfl ?_
 simp only [zz]
 refine wpAnyH_td (i := 6) rfl ?_
 simp only [zz]
 refine wpAnyH_tk (i := 7) (v := ?_) rfl (Or.inl ⟨by rfl, (by intro w hSw; obtain ⟨d0, d1, dv⟩ := HX.out _ hSw; go_simp; try with_reducible rfl)⟩) (by assumption) ?_
 simp only [zz]
 refine wpAnyH_td (i := 9) rfl ?_
 simp only [zz]
 refine wpAnyH_td (i := 10) rfl ?_
 simp only [zz]
 refine wpAnyH_tk (i := 11) (v := .agg (vecL xv).toArray) rfl (Or.inl ⟨by rfl, (by intro w hSw; exact exec_mload (by rfl) (by rfl) (HX.out _ hSw).2.2)⟩) (by assumption) ?_
 simp only [zz]
 refine wpAnyH_ready (rs := [4]) (by kernel_rfl) (by simp) ?_
 refine AllReadyH.cons rfl (fun K hK => ?_) AllReadyH.nil
 go_simp
 go_at_call 121
 refine (field_n _ _).mono ?_
 rintro e w4 ⟨rfl, hb⟩
 have E4 := Lib.hid (E0.out.below hb)
 have G4 := Lib.hid (gb_trans hHeld (gb_below hb (some c)))
 refine hK.out _ _ G4.out (fun hHeld => ?_)
 clear hb
 clear hK K
 refine wpAnyH_ready (rs := [8]) (by kernel_rfl) (by simp) ?_
 refine AllReadyH.cons rfl (fun K hK => ?_) AllReadyH.nil
 go_simp
 go_at_call 121
 refine (field_n _ _).mono ?_
 rintro e w8 ⟨rfl, hb⟩
 have E8 := Lib.hid (E4.out.below hb)
 have G8 := Lib.hid (gb_trans hHeld (gb_below hb (some c)))
 refine hK.out _ _ G8.out (fun hHeld => ?_)
 clear hb
 clear hK K
 refine wpAnyH_ready (rs := [12]) (by kernel_rfl) (by simp) ?_
 refine AllReadyH.cons rfl (fun K hK => ?_) AllReadyH.nil
 go_simp
 refine (LV.out _ E8.out).mono ?_
 rintro e w12 ⟨rfl, h8, h9⟩
 have E12 := Lib.hid h8
 have G12 := Lib.hid (gb_trans hHeld h9)
 refine hK.out _ _ G12.out (fun hHeld => ?_)
 clear h8 h9
 clear hK K
 refine wpAnyH_ready (rs := [13]) (by kernel_rfl) (by simp) ?_
 refine AllReadyH.cons rfl (fun K hK => ?_) AllReadyH.nil
 go_simp
 go_at_call 173
 refine (field_t _ _).mono ?_
 rintro e w13 ⟨rfl, hb⟩
 have E13 := Lib.hid (E12.out.below hb)
 have G13 := Lib.hid (gb_trans hHeld (gb_below hb (some c)))
 refine hK.out _ _ G13.out (fun hHeld => ?_)
 clear hb
 clear hK K
 refine wpAnyH_ready (rs := [14]) (by kernel_rfl) (by simp) ?_
 refine AllReadyH.cons rfl (fun K hK => ?_) AllReadyH.nil
 go_simp
 have E14 := Lib.hid (E13.out.new (.cells #[.int .i64 x1, .string ⟨#[]⟩, .bool false, .int .i64 x2, .string ⟨#[]⟩, .bool false, .int .i64 0, .string B, .bool true] 164))
 have F14 := Lib.hid (FF.out w13)
 refine hK.out _ _ (gb_new hHeld _) (fun hHeld => ?_)
 clear hK K
 refine wpAnyH_ready (rs := [15]) (by kernel_rfl) (by simp) ?_
 refine AllReadyH.cons rfl (fun K hK => ?_) AllReadyH.nil
 go_simp
 refine (LY.out _ _ E14.out F14.out (by simp)).mono ?_
 rintro e w15 ⟨rfl, h8, h9⟩
 have E15 := Lib.hid h8
 have G15 := Lib.hid (gb_trans hHeld h9)
 refine hK.out _ _ G15.out (fun hHeld => ?_)
 clear h8 h9
 clear hK K
 refine wpAnyH_td (i := 16) rfl ?_
 simp only [zz]
 refine wpAnyH_done (by kernel_rfl) ?_ _
 go_wp2_with fail
 go_ret
 exact ⟨rfl, E15.out, gb_trans G0.out G15.out⟩
theorem pck_lay_frags (V : VecOk) {id : FuncId} (L : Lays id) {w : World} {c c2 : Nat} {ok : Bool} {F : Nat → Prop} {v : Value} {l : List RFr} (hE : ErrAt w c ok) (hl : Rws 67 rfV w F v l) (hi : ∀ x ∈ l, x.In w F) (hF : ∀ i, F i → i ≠ c) (hc2 : w.cell? ⟨c2, 0, none⟩ = some (.func (.func 175) #[] #[])) (hcc : c2 ≠ c) (hn : l.length ≤ 65536) (hx : ∀ x ∈ l, Pck.OkFrag x.x ∧ Pck.BdFr x.x) :
  Calls Tryz.prog 274 #[.func (.func id) #[] #[.pointer (some ⟨c, 0, none⟩)], v, .pointer (some ⟨c2, 0, none⟩)] w (PutTo w c ok (Pck.lst (fun r : RFr => Pck.frag r.x) l)) := by
 obtain ⟨i0, hi0, hz0, hz1, hz2⟩ := ver_parts fieldInfo
 obtain ⟨A, cap, rfl, hcap⟩ := hl.parts
 have hcf := run_callFunc_own L.there
 have hn' : (l.length : Int) ≤ 65536 := by omega
 have hmin : min (l.length : Int) 65536 = (l.length : Int) := by omega
 have FIN := Lib.hid (fun (fs : List Fl) (v : Value) (okk : Bool) (wr : World) (h : LyAt (fun r : RFr => Pck.frag r.x) w c ok l l.length okk fs v wr) => h.fin L hn)
 have START := Lib.hid (fun (W : World) (hb : Below w.heap.size w W) => LyAt.start (enc := (fun r : RFr => Pck.frag r.x)) (l := l) hE hn hb)
 have XCC := Lib.hid (fun (W : World) (hW : w.grownBy W (some c)) => LsAt.cell hc2 hcc hW)
 have XEL := Lib.hid (fun (W : World) (hW : w.grownBy W (some c)) => hl.kept (gb_kc hW) hF)
 have PX := Lib.hid (fun (x : RFr) (hin : x ∈ l) (W : World) (okk : Bool) (g : w.grownBy W (some c)) (h : ErrAt W c okk) => pck_layFrag V L ((hi x hin).kept (gb_kc g) hF) hF (hx x hin).1 (hx x hin).2 h)
 have HI := Lib.hid hi
 have HN := Lib.hid hn
 clear hE hl hF hc2 hcc hn hx L
 go_enter Tryz.func274, Tryz.ntmps274
 go_wp2_with fail
 refine (field_n _ _).mono ?_
 rintro e w1 ⟨rfl, hb1⟩
 have S0 := Lib.hid (START.out _ hb1)
 clear hb1
 go_wp2_with fail
 go_loopw [6, 15] (fun v i wr => ∃ (k : Nat) (okk : Bool) (fs : List Fl), k ≤ l.length ∧ i = .int .i64 (k : Int) ∧ LyAt (fun r : RFr => Pck.frag r.x) w c ok l k okk fs v wr) (fun _ i _ => l.length - (intOf i).toNat)
 case atStart => exact ⟨0, ok, _, Nat.zero_le _, rfl, S0.out⟩
 case round =>
  obtain ⟨k, okk, fs, hk, rfl, hA⟩ := hrel
  by_cases hlt : k < l.length
  ·obtain ⟨be, oe, cap1, e, -, -, hb⟩ := (XEL.out _ hA.gb).block (by omega)
   injection e with e1 e2 e3
   subst e1 e3
   clear e2 hb
   obtain ⟨x, hxk⟩ : ∃ x, l[k]? = some x := ⟨_, List.getElem?_eq_getElem hlt⟩
   have HXK := Lib.hid hxk
   have XC : Hid (∀ W : World, wr.grownBy W (some c) → Lies 91 W be (oe + k * 67) (rfV x) ∧ W.cell? ⟨c2, 0, none⟩ = some (.func (.func 175) #[] #[])) := Lib.hid (fun W hW => ⟨(FrAt.elem (XEL.out _ (gb_trans hA.gb hW)) hxk ((HI.out x (List.mem_of_getElem? hxk)).len)).all, XCC.out _ (gb_trans hA.gb hW)⟩)
   have PV0 := fun W g h => PX.out x (List.mem_of_getElem? hxk) W okk g h
   have HGD : Hid (FlOk (flT (Pck.bsTo okk ((fun r : RFr => Pck.frag r.x) x)))) := Lib.hid (flT_ok (by have := Pck.bsTo_len okk ((fun r : RFr => Pck.frag r.x) x); omega))
   obtain ⟨B, hB⟩ : ∃ B, B = mk (Pck.bsTo okk ((fun r : RFr => Pck.frag r.x) x)) := ⟨_, rfl⟩
   have HBB : Hid ((⟨0, B, true⟩ : Fl) = flT (Pck.bsTo okk ((fun r : RFr => Pck.frag r.x) x))) := Lib.hid (by rw [hB]; rfl)
   have PV : Hid (∀ W : World, w.grownBy W (some c) → ErrAt W c okk → Calls Tryz.prog 175 #[.func (.func id) #[] #[.pointer (some ⟨c, 0, none⟩)], .agg (rfV x).toArray] W fun e w' => e = .returned (.string B) ∧ ErrAt w' c (Pck.okTo okk ((fun r : RFr => Pck.frag r.x) x)) ∧ W.grownBy w' (some c)) := Lib.hid (fun W g h => by rw [hB]; exact PV0 W g h)
   have hk0 : (0 : Int) ≤ (k : Int) := by omega
   have hk1 : (k : Int) < (l.length : Int) := by omega
   have Hlt : Hid (k < l.length ∧ l.length ≤ 65536) := Lib.hid ⟨hlt, HN.out⟩
   have HOD : Hid (wr.drew.ownsRow w.heap.size 164 3 _ fs.length (fs.flatMap fl3)) := Lib.hid hA.own
   have HA := Lib.hid hA
   clear hA hB hxk PV0 hk hlt
   go_wp2_with fail
   refine wp_region_tail (n := 10) (S := (fun w' : World => wr.grownBy w' (some c))) (by kernel_rfl) (by kernel_rfl) (by rfl) (gb_draw (gb_refl _ _)) (fun hHeld => ?_)
   refine wpAnyH_td (i := 0) rfl ?_
   simp only [zz]
   refine wpAnyH_tk (i := 1) (v := ?_) rfl (Or.inl ⟨by rfl, (by intro w hSw; obtain ⟨-, cc⟩ := XC.out _ hSw; go_simp; try with_reducible rfl)⟩) (by assumption) ?_
   simp only [zz]
   refine wpAnyH_td (i := 2) rfl ?_
   simp only [zz]
   refine wpAnyH_td (i := 3) rfl ?_
   simp only [zz]
   refine wpAnyH_td (i := 4) rfl ?_
   simp only [zz]
   refine wpAnyH_td (i := 5) rfl ?_
   simp only [zz]
   refine wpAnyH_tk (i := 6) (v := .agg (rfV x).toArray) rfl (Or.inl ⟨by rfl, (by intro w hSw; exact exec_mload (by rfl) (by rfl) (XC.out _ hSw).1)⟩) (by assumption) ?_
   simp only [zz]
   refine wpAnyH_ready (rs := [7]) (by kernel_rfl) (by simp) ?_
   refine AllReadyH.cons rfl (fun K hK => ?_) AllReadyH.nil
   go_simp
   go_at_call 175
   refine (PV.out _ (gb_draw HA.out.gb) HA.out.err.draw).mono ?_
   rintro e w7 ⟨rfl, h8, h9⟩
   have E7 := Lib.hid h8
   have G7 := Lib.hid (gb_trans hHeld h9)
   have O7 := Lib.hid (HOD.out.kept h9 (Or.inr (own_other HA.out.own HA.out.err (by decide))))
   refine hK.out _ _ G7.out (fun hHeld => ?_)
   clear h8 h9
   clear hK K
   refine wpAnyH_ready (rs := [8]) (by kernel_rfl) (by simp) ?_
   refine AllReadyH.cons rfl (fun K hK => ?_) AllReadyH.nil
   go_simp
   go_at_call 173
   refine (field_t _ _).mono ?_
   rintro e w8 ⟨rfl, hb⟩
   have E8 := Lib.hid (E7.out.below hb)
   have G8 := Lib.hid (gb_trans hHeld (gb_below hb (some c)))
   have O8 := Lib.hid (row_below O7.out hb)
   refine hK.out _ _ G8.out (fun hHeld => ?_)
   clear hb
   clear hK K
   refine wpAnyH_ready (rs := [9]) (by kernel_rfl) (by simp) ?_
   refine AllReadyH.cons rfl (fun K hK => ?_) AllReadyH.nil
   go_simp
   have O9 := Lib.hid (O8.out.alloc (.cells #[.int .i64 0, .string B, .bool true] 164))
   refine hK.out _ _ (gb_new hHeld _) (fun hHeld => ?_)
   clear hK K
   refine wpAnyH_done (by kernel_rfl) ?_ _
   refine wpAny_of_held (S := fun _ => True) _ _ _ _ ?_
   have hHeld : True := trivial
   refine wpAnyH_ready (rs := [10]) (by kernel_rfl) (by simp) ?_
   refine AllReadyH.cons rfl (fun K hK => ?_) AllReadyH.nil
   refine step_near (f := fl3) (k := 3) (l := [(⟨0, B, true⟩ : Fl)]) rfl (.tmp 18) (.tmp 27) 157 (by rfl) w.heap.size 164 i0 (.agg #[.int .i64 0, .string ⟨#[]⟩, .bool false]) 32 Tryz.underlying157 hi0 hz0 hz1 hz2 rfl (by decide) (by rfl) (by rfl) O9.out (rows_made (f := fl3) w8 164 (⟨0, B, true⟩ : Fl)) (fun x _ => fl3_len x) (fun x _ => fl3_one x) ?a1 ?a2 ?a3 ?_
   case a1 => (have := HA.out.len; have := Hlt.out; simp only [List.length_cons, List.length_nil]; unfold maxLen; omega)
   case a2 => (have := HA.out.len; have := Hlt.out; simp only [List.length_cons, List.length_nil]; omega)
   case a3 => (have := G8.out.size; have := HA.out.gb.size; rw [World.size_alloc]; omega)
   intro v9 w9 own9 hg9 hn9
   have MORE := Lib.hid (HA.out.more HXK.out (f := ⟨0, B, true⟩) HBB.out G8.out E8.out own9 hg9 HGD.out)
   clear own9 hg9 hn9
   refine hK.out _ _ trivial (fun hHeld => ?_)
   clear hK K
   refine wpAnyH_td (i := 11) rfl ?_
   simp only [zz]
   refine wpAnyH_done (by kernel_rfl) ?_ _
   go_wp2_with fail
   go_roundw
   case rel => exact ⟨k + 1, _, _, by have := Hlt.out; omega, by go_num, MORE.out⟩
   case measure => (have := Hlt.out; simp [intOf]; omega)
  ·obtain rfl : k = l.length := by omega
   obtain ⟨g, cp, e⟩ := hA.form
   subst e
   have FI := Lib.hid (FIN.out _ _ _ _ hA)
   rw [hA.len] at FI
   have hlen := hA.len
   clear hA hlt hk
   go_wp2_with fail
   refine FI.out.mono ?_
   rintro e w9 ⟨rfl, h8, h9⟩
   have E9 := Lib.hid h8
   have G9 := Lib.hid h9
   clear h8 h9
   go_wp2_with fail
   go_ret
   exact ⟨rfl, E9.out, G9.out⟩
theorem pck_lay_knowns (V : VecOk) {id : FuncId} (L : Lays id) {w : World} {c c2 : Nat} {ok : Bool} {F : Nat → Prop} {v : Value} {l : List Know.It} (hE : ErrAt w c ok) (hl : Rws 67 itV w F v l) (hi : ∀ x ∈ l, x.v.length = 65) (hF : ∀ i, F i → i ≠ c) (hc2 : w.cell? ⟨c2, 0, none⟩ = some (.func (.func 177) #[] #[])) (hcc : c2 ≠ c) (hn : l.length ≤ 65536) (hx : ∀ x ∈ l, Pck.OkKnown x ∧ Pck.BdIt x) :
  Calls Tryz.prog 275 #[.func (.func id) #[] #[.pointer (some ⟨c, 0, none⟩)], v, .pointer (some ⟨c2, 0, none⟩)] w (PutTo w c ok (Pck.lst Pck.known l)) := by
 obtain ⟨i0, hi0, hz0, hz1, hz2⟩ := ver_parts fieldInfo
 obtain ⟨A, cap, rfl, hcap⟩ := hl.parts
 have hcf := run_callFunc_own L.there
 have hn' : (l.length : Int) ≤ 65536 := by omega
 have hmin : min (l.length : Int) 65536 = (l.length : Int) := by omega
 have FIN := Lib.hid (fun (fs : List Fl) (v : Value) (okk : Bool) (wr : World) (h : LyAt Pck.known w c ok l l.length okk fs v wr) => h.fin L hn)
 have START := Lib.hid (fun (W : World) (hb : Below w.heap.size w W) => LyAt.start (enc := Pck.known) (l := l) hE hn hb)
 have XCC := Lib.hid (fun (W : World) (hW : w.grownBy W (some c)) => LsAt.cell hc2 hcc hW)
 have XEL := Lib.hid (fun (W : World) (hW : w.grownBy W (some c)) => hl.kept (gb_kc hW) hF)
 have PX := Lib.hid (fun (x : Know.It) (hin : x ∈ l) (W : World) (okk : Bool) (g : w.grownBy W (some c)) (h : ErrAt W c okk) => pck_layKnown V L x (hi x hin) (hx x hin).1 (hx x hin).2 h)
 have HI := Lib.hid hi
 have HN := Lib.hid hn
 clear hE hl hF hc2 hcc hn hx L
 go_enter Tryz.func275, Tryz.ntmps275
 go_wp2_with fail
 refine (field_n _ _).mono ?_
 rintro e w1 ⟨rfl, hb1⟩
 have S0 := Lib.hid (START.out _ hb1)
 clear hb1
 go_wp2_with fail
 go_loopw [6, 15] (fun v i wr => ∃ (k : Nat) (okk : Bool) (fs : List Fl), k ≤ l.length ∧ i = .int .i64 (k : Int) ∧ LyAt Pck.known w c ok l k okk fs v wr) (fun _ i _ => l.length - (intOf i).toNat)
 case atStart => exact ⟨0, ok, _, Nat.zero_le _, rfl, S0.out⟩
 case round =>
  obtain ⟨k, okk, fs, hk, rfl, hA⟩ := hrel
  by_cases hlt : k < l.length
  ·obtain ⟨be, oe, cap1, e, -, -, hb⟩ := (XEL.out _ hA.gb).block (by omega)
   injection e with e1 e2 e3
   subst e1 e3
   clear e2 hb
   obtain ⟨x, hxk⟩ : ∃ x, l[k]? = some x := ⟨_, List.getElem?_eq_getElem hlt⟩
   have HXK := Lib.hid hxk
   have XC : Hid (∀ W : World, wr.grownBy W (some c) → Lies 127 W be (oe + k * 67) (itV x) ∧ W.cell? ⟨c2, 0, none⟩ = some (.func (.func 177) #[] #[])) := Lib.hid (fun W hW => ⟨(ItAt.elem (XEL.out _ (gb_trans hA.gb hW)) hxk (HI.out x (List.mem_of_getElem? hxk))).all, XCC.out _ (gb_trans hA.gb hW)⟩)
   have PV0 := fun W g h => PX.out x (List.mem_of_getElem? hxk) W okk g h
   have HGD : Hid (FlOk (flT (Pck.bsTo okk (Pck.known x)))) := Lib.hid (flT_ok (by have := Pck.bsTo_len okk (Pck.known x); omega))
   obtain ⟨B, hB⟩ : ∃ B, B = mk (Pck.bsTo okk (Pck.known x)) := ⟨_, rfl⟩
   have HBB : Hid ((⟨0, B, true⟩ : Fl) = flT (Pck.bsTo okk (Pck.known x))) := Lib.hid (by rw [hB]; rfl)
   have PV : Hid (∀ W : World, w.grownBy W (some c) → ErrAt W c okk → Calls Tryz.prog 177 #[.func (.func id) #[] #[.pointer (some ⟨c, 0, none⟩)], .agg (itV x).toArray] W fun e w' => e = .returned (.string B) ∧ ErrAt w' c (Pck.okTo okk (Pck.known x)) ∧ W.grownBy w' (some c)) := Lib.hid (fun W g h => by rw [hB]; exact PV0 W g h)
   have hk0 : (0 : Int) ≤ (k : Int) := by omega
   have hk1 : (k : Int) < (l.length : Int) := by omega
   have Hlt : Hid (k < l.length ∧ l.length ≤ 65536) := Lib.hid ⟨hlt, HN.out⟩
   have HOD : Hid (wr.drew.ownsRow w.heap.size 164 3 _ fs.length (fs.flatMap fl3)) := Lib.hid hA.own
   have HA := Lib.hid hA
   clear hA hB hxk PV0 hk hlt
   go_wp2_with fail
   refine wp_region_tail (n := 10) (S := (fun w' : World => wr.grownBy w' (some c))) (by kernel_rfl) (by kernel_rfl) (by rfl) (gb_draw (gb_refl _ _)) (fun hHeld => ?_)
   refine wpAnyH_td (i := 0) rfl ?_
   simp only [zz]
   refine wpAnyH_tk (i := 1) (v := ?_) rfl (Or.inl ⟨by rfl, (by intro w hSw; obtain ⟨-, cc⟩ := XC.out _ hSw; go_simp; try with_reducible rfl)⟩) (by assumption) ?_
   simp only [zz]
   refine wpAnyH_td (i := 2) rfl ?_
   simp only [zz]
   refine wpAnyH_td (i := 3) rfl ?_
   simp only [zz]
   refine wpAnyH_td (i := 4) rfl ?_
   simp only [zz]
   refine wpAnyH_td (i := 5) rfl ?_
   simp only [zz]
   refine wpAnyH_tk (i := 6) (v := .agg (itV x).toArray) rfl (Or.inl ⟨by rfl, (by intro w hSw; exact exec_mload (by rfl) (by rfl) (XC.out _ hSw).1)⟩) (by assumption) ?_
   simp only [zz]
   refine wpAnyH_ready (rs := [7]) (by kernel_rfl) (by simp) ?_
   refine AllReadyH.cons rfl (fun K hK => ?_) AllReadyH.nil
   go_simp
   go_at_call 177
   refine (PV.out _ (gb_draw HA.out.gb) HA.out.err.draw).mono ?_
   rintro e w7 ⟨rfl, h8, h9⟩
   have E7 := Lib.hid h8
   have G7 := Lib.hid (gb_trans hHeld h9)
   have O7 := Lib.hid (HOD.out.kept h9 (Or.inr (own_other HA.out.own HA.out.err (by decide))))
   refine hK.out _ _ G7.out (fun hHeld => ?_)
   clear h8 h9
   clear hK K
   refine wpAnyH_ready (rs := [8]) (by kernel_rfl) (by simp) ?_
   refine AllReadyH.cons rfl (fun K hK => ?_) AllReadyH.nil
   go_simp
   go_at_call 173
   refine (field_t _ _).mono ?_
   rintro e w8 ⟨rfl, hb⟩
   have E8 := Lib.hid (E7.out.below hb)
   have G8 := Lib.hid (gb_trans hHeld (gb_below hb (some c)))
   have O8 := Lib.hid (row_below O7.out hb)
   refine hK.out _ _ G8.out (fun hHeld => ?_)
   clear hb
   clear hK K
   refine wpAnyH_ready (rs := [9]) (by kernel_rfl) (by simp) ?_
   refine AllReadyH.cons rfl (fun K hK => ?_) AllReadyH.nil
   go_simp
   have O9 := Lib.hid (O8.out.alloc (.cells #[.int .i64 0, .string B, .bool true] 164))
   refine hK.out _ _ (gb_new hHeld _) (fun hHeld => ?_)
   clear hK K
   refine wpAnyH_done (by kernel_rfl) ?_ _
   refine wpAny_of_held (S := fun _ => True) _ _ _ _ ?_
   have hHeld : True := trivial
   refine wpAnyH_ready (rs := [10]) (by kernel_rfl) (by simp) ?_
   refine AllReadyH.cons rfl (fun K hK => ?_) AllReadyH.nil
   refine step_near (f := fl3) (k := 3) (l := [(⟨0, B, true⟩ : Fl)]) rfl (.tmp 18) (.tmp 27) 157 (by rfl) w.heap.size 164 i0 (.agg #[.int .i64 0, .string ⟨#[]⟩, .bool false]) 32 Tryz.underlying157 hi0 hz0 hz1 hz2 rfl (by decide) (by rfl) (by rfl) O9.out (rows_made (f := fl3) w8 164 (⟨0, B, true⟩ : Fl)) (fun x _ => fl3_len x) (fun x _ => fl3_one x) ?a1 ?a2 ?a3 ?_
   case a1 => (have := HA.out.len; have := Hlt.out; simp only [List.length_cons, List.length_nil]; unfold maxLen; omega)
   case a2 => (have := HA.out.len; have := Hlt.out; simp only [List.length_cons, List.length_nil]; omega)
   case a3 => (have := G8.out.size; have := HA.out.gb.size; rw [World.size_alloc]; omega)
   intro v9 w9 own9 hg9 hn9
   have MORE := Lib.hid (HA.out.more HXK.out (f := ⟨0, B, true⟩) HBB.out G8.out E8.out own9 hg9 HGD.out)
   clear own9 hg9 hn9
   refine hK.out _ _ trivial (fun hHeld => ?_)
   clear hK K
   refine wpAnyH_td (i := 11) rfl ?_
   simp only [zz]
   refine wpAnyH_done (by kernel_rfl) ?_ _
   go_wp2_with fail
   go_roundw
   case rel => exact ⟨k + 1, _, _, by have := Hlt.out; omega, by go_num, MORE.out⟩
   case measure => (have := Hlt.out; simp [intOf]; omega)
  ·obtain rfl : k = l.length := by omega
   obtain ⟨g, cp, e⟩ := hA.form
   subst e
   have FI := Lib.hid (FIN.out _ _ _ _ hA)
   rw [hA.len] at FI
   have hlen := hA.len
   clear hA hlt hk
   go_wp2_with fail
   refine FI.out.mono ?_
   rintro e w9 ⟨rfl, h8, h9⟩
   have E9 := Lib.hid h8
   have G9 := Lib.hid h9
   clear h8 h9
   go_wp2_with fail
   go_ret
   exact ⟨rfl, E9.out, G9.out⟩
theorem pck_layKnow (V : VecOk) {id : FuncId} (L : Lays id) {w : World} {c : Nat} {ok : Bool} {F : Nat → Prop} {v : Value} {k : Know.K} (h : Kns w F v k) (hF : ∀ i, F i → i ≠ c) (hok : Pck.OkKnow k) (hb : Pck.BdK k) (hE : ErrAt w c ok) :
  Calls Tryz.prog 86 #[.func (.func id) #[] #[.pointer (some ⟨c, 0, none⟩)], v] w (PutTo w c ok (Pck.know k)) := by
 have hcf := run_callFunc_own L.there
 have hcw : c < w.heap.size := Row.inHeap hE
 obtain ⟨a, b, rfl, ⟨rs, hrx, hf, hfi⟩, hi, hil⟩ := h
 have hll : rs.length = k.frags.length := by have h1 := congrArg List.length hrx; rwa [List.length_map] at h1
 obtain ⟨s1, e1⟩ : ∃ s, s = Pck.bsTo ok (Pck.lst Pck.frag k.frags) := ⟨_, rfl⟩
 obtain ⟨ok1, o1⟩ : ∃ o, o = Pck.okTo ok (Pck.lst Pck.frag k.frags) := ⟨_, rfl⟩
 obtain ⟨s2, e2⟩ : ∃ s, s = Pck.bsTo ok1 (Pck.lst Pck.known k.items) := ⟨_, rfl⟩
 obtain ⟨ok2, o2⟩ : ∃ o, o = Pck.okTo ok1 (Pck.lst Pck.known k.items) := ⟨_, rfl⟩
 have l1 : s1.length ≤ 65536 := by rw [e1]; exact Pck.bsTo_len _ _
 have l2 : s2.length ≤ 65536 := by rw [e2]; exact Pck.bsTo_len _ _
 have FO : ∀ f ∈ [flT s1, flT s2], FlOk f := by
  intro f hf
  simp only [List.mem_cons, List.not_mem_nil, or_false] at hf
  rcases hf with rfl | rfl
  ·exact flT_ok (by omega)
  ·exact flT_ok (by omega)
 have AB : allBytes [flT s1, flT s2] = Pck.txt s1 ++ Pck.txt s2 := by simp only [allBytes, List.flatMap_cons, List.flatMap_nil, List.append_nil, flN_all, flT_all, List.append_assoc]
 have LY : Hid (∀ (W : World) (bk : Nat), ErrAt W c ok2 → FieldsAt W bk 0 [flT s1, flT s2] → bk < W.heap.size → Calls Tryz.prog id #[.slice (some ⟨bk, 0, none⟩) 2 2, .pointer (some ⟨c, 0, none⟩)] W (PutTo W c ok (Pck.know k))) := Lib.hid (fun W bk h1 h2 h3 => by
  have := L.lays (cap := 2) h1 h2 h3 (by simp) FO
  rw [AB] at this
  exact this.mono (fun e w' h => h.is (Pck.two_to ok _ _ s1 s2 ok1 ok2 e1 o1 e2 o2)))
 have hel : Pck.lst (fun r : RFr => Pck.frag r.x) rs = Pck.lst Pck.frag k.frags := by rw [Pck.lst_map Pck.frag (·.x) rs, hrx]
 have LC := Lib.hid (fun (W : World) (c2 : Nat) (g : w.grownBy W (some c)) (h1 : ErrAt W c ok) (h4 : W.cell? ⟨c2, 0, none⟩ = _) (h5 : c2 ≠ c) => pck_lay_frags V L h1 (hf.kept (gb_kc g) hF) (fun x hx => (hfi x hx).kept (gb_kc g) hF) hF h4 h5 (by have := hok.1; omega) (fun x hx => ⟨hok.2.1 x.x (by rw [← hrx]; exact List.mem_map_of_mem hx), hb.fb x.x (by rw [← hrx]; exact List.mem_map_of_mem hx)⟩))
 have LN := Lib.hid (fun (W : World) (c2 : Nat) (g : w.grownBy W (some c)) (h1 : ErrAt W c ok1) (h4 : W.cell? ⟨c2, 0, none⟩ = _) (h5 : c2 ≠ c) => pck_lay_knowns V L h1 (hi.kept (gb_kc g) hF) hil hF h4 h5 (by have := hok.2.2.1; omega) (fun x hx => ⟨hok.2.2.2 x hx, hb.ib x hx⟩))
 unfold PutTo at LC LN
 rw [hel, ← e1, ← o1] at LC
 rw [← e2, ← o2] at LN
 have FF : Hid (∀ W : World, FieldsAt (W.alloc (.cells #[.int .i64 0, .string (mk s1), .bool true, .int .i64 0, .string (mk s2), .bool true] 164)) W.heap.size 0 [flT s1, flT s2]) := Lib.hid (fun W => fields_at (Rws.made W 164 [flT s1, flT s2] (fun f _ => fl3_len f)) (by simp))
 obtain ⟨A, ca, rfl, -⟩ := hf.parts
 obtain ⟨B, cb, rfl, -⟩ := hi.parts
 rw [hll] at *
 have hbox := Row.made w 28 #[.slice A k.frags.length ca, .slice B k.items.length cb]
 have HX : Hid (∀ W : World, (w.alloc (.cells #[.slice A k.frags.length ca, .slice B k.items.length cb] 28)).grownBy W (some c) → W.cell? ⟨w.heap.size, 0, none⟩ = some (.slice A k.frags.length ca) ∧ W.cell? ⟨w.heap.size, 1, none⟩ = some (.slice B k.items.length cb)) := Lib.hid (fun W hW => by
  have q := hbox.grown hW (fun e => by injection e with e; omega)
  exact ⟨q.at 0, q.at 1⟩)
 have E0 : Hid (ErrAt (w.alloc (.cells #[.slice A k.frags.length ca, .slice B k.items.length cb] 28)).drew c ok) := Lib.hid (hE.new _)
 have G0 : Hid (w.grownBy (w.alloc (.cells #[.slice A k.frags.length ca, .slice B k.items.length cb] 28)) (some c)) := Lib.hid (gb_new (gb_refl _ _) _)
 unfold PutTo at LY ⊢
 generalize Pck.bsTo ok (Pck.know k) = RS at *
 generalize Pck.okTo ok (Pck.know k) = RO at *
 clear e1 o1 e2 o2 l1 l2 FO AB hbox hel
 generalize mk s1 = B1 at *
 generalize mk s2 = B2 at *
 clear hE hcw hF hok hb L V hrx hf hfi hi hil hll
 go_enter Tryz.func86, Tryz.ntmps86
 go_wp2_with fail
 refine wp_region_held_drew (S := (fun w' : World => (w.alloc (.cells #[.slice A k.frags.length ca, .slice B k.items.length cb] 28)).grownBy w' (some c))) (by kernel_rfl) (gb_draw (gb_refl _ _)) (fun hHeld => ?_)
 refine wpAnyH_td (i := 0) rfl ?_
 simp only [zz]
 refine wpAnyH_td (i := 2) rfl ?_
 simp only [zz]
 refine wpAnyH_td (i := 3) rfl ?_
 simp only [zz]
 refine wpAnyH_tk (i := 4) (v := ?_) rfl (Or.inl ⟨by rfl, (by intro w hSw; obtain ⟨d0, d1⟩ := HX.out _ hSw; go_simp; try with_reducible rfl)⟩) (by assumption) ?_
 simp only [zz]
 refine wpAnyH_td (i := 8) rfl ?_
 simp only [zz]
 refine wpAnyH_td (i := 9) rfl ?_
 simp only [zz]
 refine wpAnyH_tk (i := 10) (v := ?_) rfl (Or.inl ⟨by rfl, (by intro w hSw; obtain ⟨d0, d1⟩ := HX.out _ hSw; go_simp; try with_reducible rfl)⟩) (by assumption) ?_
 simp only [zz]
 refine wpAnyH_ready (rs := [1]) (by kernel_rfl) (by simp) ?_
 refine AllReadyH.cons rfl (fun K hK => ?_) AllReadyH.nil
 go_simp
 go_at_call 174
 refine (pck_list_of_frag _).mono ?_
 rintro e w1 ⟨c2, rfl, h7, h8, h9⟩
 have C1 := Lib.hid h8
 have N1 : Hid (c2 ≠ c) := Lib.hid (by have h6 := Row.inHeap E0.out; omega)
 have E1 := Lib.hid (E0.out.below h9)
 have G1 := Lib.hid (gb_trans hHeld (gb_below h9 (some c)))
 refine hK.out _ _ G1.out (fun hHeld => ?_)
 clear h7 h8 h9
 clear hK K
 refine wpAnyH_ready (rs := [5]) (by kernel_rfl) (by simp) ?_
 refine AllReadyH.cons rfl (fun K hK => ?_) AllReadyH.nil
 go_simp
 refine (LC.out _ _ (gb_trans G0.out G1.out) E1.out (C1.out.at 0) N1.out).mono ?_
 rintro e w5 ⟨rfl, h8, h9⟩
 have E5 := Lib.hid h8
 have G5 := Lib.hid (gb_trans hHeld h9)
 refine hK.out _ _ G5.out (fun hHeld => ?_)
 clear h8 h9
 clear hK K
 refine wpAnyH_ready (rs := [6]) (by kernel_rfl) (by simp) ?_
 refine AllReadyH.cons rfl (fun K hK => ?_) AllReadyH.nil
 go_simp
 go_at_call 173
 refine (field_t _ _).mono ?_
 rintro e w6 ⟨rfl, hb⟩
 have E6 := Lib.hid (E5.out.below hb)
 have G6 := Lib.hid (gb_trans hHeld (gb_below hb (some c)))
 refine hK.out _ _ G6.out (fun hHeld => ?_)
 clear hb
 clear hK K
 refine wpAnyH_ready (rs := [7]) (by kernel_rfl) (by simp) ?_
 refine AllReadyH.cons rfl (fun K hK => ?_) AllReadyH.nil
 go_simp
 go_at_call 176
 refine (pck_list_of_known _).mono ?_
 rintro e w7 ⟨c3, rfl, h7, h8, h9⟩
 have C7 := Lib.hid h8
 have N7 : Hid (c3 ≠ c) := Lib.hid (by have h6 := Row.inHeap E6.out; omega)
 have E7 := Lib.hid (E6.out.below h9)
 have G7 := Lib.hid (gb_trans hHeld (gb_below h9 (some c)))
 refine hK.out _ _ G7.out (fun hHeld => ?_)
 clear h7 h8 h9
 clear hK K
 refine wpAnyH_ready (rs := [11]) (by kernel_rfl) (by simp) ?_
 refine AllReadyH.cons rfl (fun K hK => ?_) AllReadyH.nil
 go_simp
 refine (LN.out _ _ (gb_trans G0.out G7.out) E7.out (C7.out.at 0) N7.out).mono ?_
 rintro e w11 ⟨rfl, h8, h9⟩
 have E11 := Lib.hid h8
 have G11 := Lib.hid (gb_trans hHeld h9)
 refine hK.out _ _ G11.out (fun hHeld => ?_)
 clear h8 h9
 clear hK K
 refine wpAnyH_ready (rs := [12]) (by kernel_rfl) (by simp) ?_
 refine AllReadyH.cons rfl (fun K hK => ?_) AllReadyH.nil
 go_simp
 go_at_call 173
 refine (field_t _ _).mono ?_
 rintro e w12 ⟨rfl, hb⟩
 have E12 := Lib.hid (E11.out.below hb)
 have G12 := Lib.hid (gb_trans hHeld (gb_below hb (some c)))
 refine hK.out _ _ G12.out (fun hHeld => ?_)
 clear hb
 clear hK K
 refine wpAnyH_ready (rs := [13]) (by kernel_rfl) (by simp) ?_
 refine AllReadyH.cons rfl (fun K hK => ?_) AllReadyH.nil
 go_simp
 have E13 := Lib.hid (E12.out.new (.cells #[.int .i64 0, .string B1, .bool true, .int .i64 0, .string B2, .bool true] 164))
 have F13 := Lib.hid (FF.out w12)
 refine hK.out _ _ (gb_new hHeld _) (fun hHeld => ?_)
 clear hK K
 refine wpAnyH_ready (rs := [14]) (by kernel_rfl) (by simp) ?_
 refine AllReadyH.cons rfl (fun K hK => ?_) AllReadyH.nil
 go_simp
 refine (LY.out _ _ E13.out F13.out (by simp)).mono ?_
 rintro e w14 ⟨rfl, h8, h9⟩
 have E14 := Lib.hid h8
 have G14 := Lib.hid (gb_trans hHeld h9)
 refine hK.out _ _ G14.out (fun hHeld => ?_)
 clear h8 h9
 clear hK K
 refine wpAnyH_td (i := 15) rfl ?_
 simp only [zz]
 refine wpAnyH_done (by kernel_rfl) ?_ _
 go_wp2_with fail
 go_ret
 exact ⟨rfl, E14.out, gb_trans G0.out G14.out⟩
end Go.Proofs.YtpafpegcodempaaGreat
