import Derived.Test.YtpafpegcodempaaGreatCom16
import Derived.Test.YtpafpegcodempaaGreatCom19
set_option maxRecDepth 100000
set_option linter.all false
set_option maxHeartbeats 12800000
namespace Go.Proofs.YtpafpegcodempaaGreat
open Go.RowKit Go.Sort
theorem pck_known (V : VecOk) {w : World} {b : Nat} {l : List UInt8} {e : Int} (h : RdL w b l e) (hm : l.length ≤ 100000) :
  Calls Tryz.prog 182 #[.pointer (some ⟨b, 0, none⟩)] w fun ed w' => ed = .returned (itA (Pck.rdKnown l e).1) ∧ RdL w' b (Pck.rdKnown l e).2.1 (Pck.rdKnown l e).2.2 ∧ w.grownBy w' (some b) := by
 have hz := itZero
 have h1 := Pck.rdVer_left l e
 have h2 := stepT_left (Pck.rdVer l e).2.1 (Pck.rdVer l e).2.2
 have hR : Pck.rdKnown l e = (⟨(Pck.rdVer l e).1, (Pck.rdVec (stepT (Pck.rdVer l e).2.1 (Pck.rdVer l e).2.2).1 0).1⟩, (stepT (Pck.rdVer l e).2.1 (Pck.rdVer l e).2.2).2) := rfl
 rw [hR]
 clear hR
 have B0 := Lib.hid (RdB.start h (itV itZ).toArray 127)
 have L1 := Lib.hid (fun (W : World) (h : RdL W b l e) => pck_ver h hm)
 generalize Pck.rdVer l e = s1 at *
 obtain ⟨⟨x1, x2⟩, l1, e1⟩ := s1
 dsimp only at h1 h2 L1 ⊢
 have I2 := Lib.hid (fun (W : World) (h : RdL W b l1 e1) => pck_inner h (by omega))
 generalize stepT l1 e1 = s2 at *
 obtain ⟨t2, l2, e2⟩ := s2
 dsimp only at h2 I2 ⊢
 have L2 := Lib.hid (fun (W : World) (p : Nat) (h : RdL W p t2 0) => pck_vec V h (by omega))
 have HV := Lib.hid (Pck.rdVec_plain t2 0).1
 generalize Pck.rdVec t2 0 = q2 at *
 obtain ⟨xv, lv, ev⟩ := q2
 dsimp only at L2 HV ⊢
 clear h h1 h2 hm V
 go_enter Tryz.func182, Tryz.ntmps182
 go_wp2_with fail
 refine (L1.out _ B0.out.rd).mono ?_
 rintro ed w1 ⟨rfl, h3, g2⟩
 have B1 := Lib.hid (B0.out.inner h3 g2)
 clear h3 g2
 go_wp2_with fail
 refine (I2.out _ B1.out.rd).mono ?_
 rintro ed w2 ⟨p2, rfl, h2, hp, h3, g2⟩
 have P2 := Lib.hid h2
 have B2 := Lib.hid (B1.out.inner h3 g2)
 have S2 := Lib.hid hp
 clear h2 hp h3 g2
 go_wp2_with fail
 refine (L2.out _ _ P2.out).mono ?_
 rintro ed w3 ⟨rfl, -, g3⟩
 have hz2 := B1.out.size
 have hz3 := S2.out
 have B3 := Lib.hid (B2.out.part g3 (by omega))
 clear g3 hz2 hz3
 go_wp2_with (first | refine wpList_itbuild rfl (.tmp 4) (.tmp 7) rfl (i := ⟨x1, x2⟩) (by rfl) (by rfl) HV.out ?_ | refine wpList_rstore (cs := itV ⟨⟨x1, x2⟩, xv⟩) (by rfl) (.tmp 2) (.tmp 8) (by rfl) (by rfl) (by rfl) B3.out.box (itSize HV.out) (by rw [itZ_size, it_len HV.out]) (it_one _) ?_)
 rintro w9 hr9 hk9
 have hw9 := B3.out.set hk9
 have R9 := Lib.hid hr9
 have D9 := Lib.hid hw9
 clear hr9 hk9 hw9
 go_wp2_with fail
 exact bodyPost_ret (v := itA ⟨⟨x1, x2⟩, xv⟩) (results_cell_row (by rfl) _ _ w.heap.size 127 _ (0, 0) _ (by rfl) R9.out Tryz.underlying127 rfl (by have := itSize (i := ⟨⟨x1, x2⟩, xv⟩) HV.out; rwa [← List.size_toArray] at this)) rfl ⟨rfl, D9.out.1, D9.out.2⟩
theorem ls_ins {w wr w2 w3 w4 : World} {b p : Nat} {lk : List UInt8} {ek : Int} {out : List RFr} {v v4 : Value} {r : RFr} {o : Obj} (hi : ∀ r ∈ out, r.In wr (fun i => w.heap.size ≤ i ∧ Off v i)) (hA : LsAt 91 67 rfV w b lk ek out v wr) (hbw : b < w.heap.size) (g2 : wr.grownBy w2 (some b)) (hp : wr.heap.size ≤ p) (g3 : w2.grownBy w3 (some p)) (hr : r.In w3 (fun i => w2.heap.size < i)) (hg : (w3.alloc o).grownBy w4 v.ownBlock) (hn : Near (w3.alloc o) v v4) : ∀ r' ∈ out ++ [r], r'.In w4 (fun i => w.heap.size ≤ i ∧ Off v4 i) := by
 have hs0 := hA.gb.size
 have hs2 := g2.size
 have hs3 := g3.size
 have hown := fun g hg => (hA.own.lt g hg).2
 have hal : (w3.alloc o).heap.size = w3.heap.size + 1 := World.size_alloc _ _
 have hB : Below w3.heap.size w3 (w3.alloc o) := (Below.refl _ _).alloc (Nat.le_refl _) o
 have kg : Kept (fun i => v.ownBlock = some i) (w3.alloc o) w4 := Kept.ofGrown hg (fun i e => e)
 intro r' h
 rcases List.mem_append.1 h with h | h
 ·have h1 := ((hi r' h).lt.kept (gb_kc2 g2) (fun i hi q => by have q : i = b := q; have := hi.1.1; omega)).kept (gb_kc2 g3) (fun i hi q => by have q : i = p := q; have := hi.2; omega)
  refine ((h1.below hB).kept kg (fun i hi q => hi.1.2 q)).mono (fun i hi => ⟨hi.1.1, fun e => ?_⟩)
  rcases hn with hn | hn
  ·rw [hn] at e; exact hi.1.2 e
  ·have h2 := hn i e; have h3 := hi.2; omega
 ·rw [List.mem_singleton.1 h]
  refine ((hr.lt.below hB).kept kg (fun i hi q => by have h1 := hown i q; have h2 : w2.heap.size < i := hi.1; omega)).mono (fun i hi => ⟨by have h2 : w2.heap.size < i := hi.1; omega, fun e => ?_⟩)
  have h2 : w2.heap.size < i := hi.1
  have h3 := hi.2
  rcases hn with hn | hn
  ·rw [hn] at e; have := hown i e; omega
  ·have := hn i e; omega
theorem rin_set {W W' : World} {n : Nat} {r : RFr} (h : r.In W (fun i => n < i)) (g : Kept (fun i => i = n) W W') : r.In W' (fun i => n < i) := ⟨rws_set h.f g, rws_set h.no g, h.len⟩
theorem pck_list_frag (V : VecOk) {w : World} {b c : Nat} {l : List UInt8} {e : Int} (h : RdL w b l e) (hc : w.cell? ⟨c, 0, none⟩ = some (.func (.func 179) #[] #[])) (hcb : c ≠ b) (hm : l.length ≤ 100000) :
  Calls Tryz.prog 276 #[.pointer (some ⟨b, 0, none⟩), .pointer (some ⟨c, 0, none⟩)] w fun ed w' => (∃ v, ed = .returned v ∧ ∃ rs : List RFr, rs.map (·.x) = (Pck.list Pck.rdFrag l e).1 ∧ Rws 67 rfV w' (NewIn w w') v rs ∧ (∀ r ∈ rs, r.In w' (fun i => w.heap.size ≤ i))) ∧ RdL w' b (Pck.list Pck.rdFrag l e).2.1 (Pck.list Pck.rdFrag l e).2.2 ∧ w.grownBy w' (some b) := by
 obtain ⟨i0, hi, hz0, hz1, hz2⟩ := ver_parts frInfo
 have hbw : b < w.heap.size := Row.inHeap h
 have HC := Lib.hid (fun (W : World) (hW : w.grownBy W (some b)) => LsAt.cell hc hcb hW)
 have N1 := Lib.hid (pck_n h hm)
 have hl1 := stepN_left l e
 have hn63 := stepN_fits l e
 unfold Pck.list
 unfold Pck.rn at N1
 generalize stepN l e = s1 at *
 obtain ⟨n, l1, e1⟩ := s1
 dsimp only at hl1 hn63 N1 ⊢
 obtain ⟨T, hT⟩ : ∃ T, T = Pck.elems Pck.rdFrag n l1 e1 := ⟨_, rfl⟩
 rw [← hT]
 replace hT := Lib.hid hT
 have hn : (n : Int) ≤ 9223372036854775807 := by omega
 have HL1 : Hid (l1.length ≤ 100000) := Lib.hid (by omega)
 have HBW := Lib.hid hbw
 clear h hc hcb hm hl1 hn63 hbw
 go_enter Tryz.func276, Tryz.ntmps276
 go_wp2_with fail
 refine N1.out.mono ?_
 rintro ed w1 ⟨rfl, h1, g1⟩
 have A0 : Hid (LsAt 91 67 rfV w b l1 e1 [] (.slice none 0 0) w1) := Lib.hid ⟨World.ownsRow_nil _ _ _ _, h1, g1⟩
 clear h1 g1
 go_wp2_with fail
 go_loopw [4, 8] (fun v i wr => ∃ (k : Nat) (lk : List UInt8) (ek : Int) (out : List RFr), k ≤ n ∧ i = .int .i64 (k : Int) ∧ LsAt 91 67 rfV w b lk ek out v wr ∧ Hid (∀ r ∈ out, r.In wr (fun i => w.heap.size ≤ i ∧ Off v i)) ∧ Hid (T = (out.map (·.x) ++ (Pck.elems Pck.rdFrag (n - k) lk ek).1, (Pck.elems Pck.rdFrag (n - k) lk ek).2)) ∧ Hid (out.length + lk.length ≤ 100000)) (fun _ i _ => n - (intOf i).toNat)
 case atStart => exact ⟨0, l1, e1, [], Nat.zero_le _, rfl, A0.out, Lib.hid (fun _ h => (by cases h)), Lib.hid (by rw [hT.out]; rfl), Lib.hid (by simpa using HL1.out)⟩
 case round =>
  obtain ⟨k, lk, ek, out, hk, rfl, hA, hI, hR, hF⟩ := hrel
  by_cases hlt : k < n
  ·have hk0 : (k : Int) < (n : Int) := by omega
   have Hlt := Lib.hid hlt
   have hF' := hF.out
   have IN := Lib.hid (pck_inner hA.rd (by omega))
   have hle := stepT_left lk ek
   have HA := Lib.hid hA
   obtain ⟨m, hm⟩ : ∃ m, n - k = m + 1 := ⟨n - k - 1, by omega⟩
   have hm2 : n - (k + 1) = m := by omega
   have hR' := hR.out
   rw [hm, Pck.elems] at hR'
   have VR := Lib.hid (fun (W : World) (p : Nat) (h : RdL W p (stepT lk ek).1 0) => pck_frag V h (by omega))
   have hrl : (Pck.rdFrag (stepT lk ek).1 0).2.1.length ≤ 100000 := Nat.le_trans (Pck.rdFrag_left _ _) (by omega)
   have hnev := fun h => Pck.rdFrag_never.some (t := (stepT lk ek).1) h
   have hless := fun h => stepT_less (l := lk) (e := ek) h
   generalize stepT lk ek = s2 at *
   obtain ⟨t, l2, e2⟩ := s2
   dsimp only at *
   generalize Pck.rdFrag t 0 = s3 at *
   obtain ⟨x, lr, er⟩ := s3
   dsimp only at *
   have hout : out.length ≤ 100000 := by omega
   have Hlr := Lib.hid hrl
   clear hrl hA hle hF' hk hlt hm hR
   by_cases hend : endOf lr.length er = 0
   ·rw [if_pos hend] at hR'
    have hless2 := hless (hnev hend)
    have HR1 : Hid (T = ((out.map (·.x) ++ [x]) ++ (Pck.elems Pck.rdFrag (n - (k + 1)) l2 e2).1, (Pck.elems Pck.rdFrag (n - (k + 1)) l2 e2).2)) := Lib.hid (by rw [hR', hm2, List.append_assoc]; rfl)
    have HF1 : Hid (out.length + 1 + l2.length ≤ 100000) := Lib.hid (by have := hF.out; omega)
    have hed : (endOf lr.length er != 0) = false := by rw [hend]; rfl
    have Hout := Lib.hid hout
    clear hnev hless hR' hend hF hless2 hm2 hout
    go_wp2_with fail
    refine IN.out.mono ?_
    rintro ed w2 ⟨p, rfl, h2, hp, h3, g2⟩
    have c2 := HC.out _ (gb_trans HA.out.gb g2)
    have H2 := Lib.hid h2
    have Q2 := Lib.hid g2
    have S2 := Lib.hid hp
    have MID := Lib.hid (fun (W : World) (g3 : w2.grownBy W (some p)) (o : Obj) => HA.out.mid (by decide) g2 h2 g3 o)
    have MORE := Lib.hid (fun (x : RFr) (W : World) (g3 : w2.grownBy W (some p)) (h4 : RdL W p lr er) => HA.out.more (by decide) HBW.out g2 h3 hp g3 h4 (x := x))
    clear h2 hp h3 g2
    go_wp2_with fail
    refine (VR.out _ _ H2.out).mono ?_
    rintro ed w3 ⟨⟨r, rfl, hrx, hri⟩, h4, g3⟩
    have own1 := MID.out _ g3 (.cells (rfV r).toArray 91)
    have hbs : w.heap.size ≤ w3.heap.size := Nat.le_trans HA.out.gb.size (MORE.out r _ g3 h4).1
    have MO := Lib.hid (MORE.out r _ g3 h4).2
    have INS := Lib.hid (fun (o : Obj) (v4 : Value) (w4 : World) hg hn => ls_ins (o := o) (v4 := v4) (w4 := w4) hI.out HA.out HBW.out Q2.out S2.out g3 hri hg hn)
    have HLN := Lib.hid (rf_len hri.len)
    have HON := Lib.hid hri.one
    have HRX := Lib.hid hrx
    clear hrx hri
    clear c2 h4 g3
    go_wp2_with (first | refine wpList_buildK rfl 25 91 _ rfl (by rfl) Tryz.underlying25 hi hz0 hz1 (by decide) (by decide) HLN.out ?_ | (at_builtin; refine wp_joins (f := rfV) (k := 67) (l := [r]) rfl _ _ 25 rfl w.heap.size 91 i0 (frA frZ) 568 Tryz.underlying25 hi hz0 hz1 hz2 frZ_size (by decide) rfl rfl own1 (rows_made (f := rfV) w3 91 r) (fun y hy => by rw [List.mem_singleton.1 hy]; exact HLN.out) (fun y hy => by rw [List.mem_singleton.1 hy]; exact HON.out) ?a1 ?a2 ?a3 ?_; (case a1 => (have := Hout.out; simp only [List.length_cons, List.length_nil]; unfold maxLen; omega)); (case a2 => (have := Hout.out; simp only [List.length_cons, List.length_nil]; omega)); (case a3 => (rw [World.size_alloc]; omega)); intro v4 w4 own4 hg4 hn4; obtain ⟨LS4, H5⟩ := MO.out _ _ _ own4 hg4; have IN4 := Lib.hid (INS.out _ _ _ hg4 hn4); replace LS4 := Lib.hid LS4; replace H5 := Lib.hid H5; clear own4 hg4 hn4 own1))
    refine (end_any H5.out (by show (mk lr).size ≤ _; rw [mk_len]; have := Hlr.out; omega)).mono ?_
    rintro ed w5 ⟨rfl, rfl⟩
    go_wp2_with fail
    go_roundw
    case rel => exact ⟨k + 1, l2, e2, _, by have := Hlt.out; omega, by go_num, LS4.out, IN4, Lib.hid (by rw [List.map_append, List.map_cons, List.map_nil, HRX.out]; exact HR1.out), Lib.hid (by have := HF1.out; rw [List.length_append, List.length_singleton]; omega)⟩
    case measure => (have := Hlt.out; simp [intOf]; omega)
   ·rw [if_neg hend] at hR'
    have HR1 : Hid (T = ((out.map (·.x) ++ [x]), (l2, e2))) := Lib.hid hR'
    have hed : (endOf lr.length er != 0) = true := by simpa using hend
    have Hout := Lib.hid hout
    clear hnev hless hR' hend hF hm2 hout
    go_wp2_with fail
    refine IN.out.mono ?_
    rintro ed w2 ⟨p, rfl, h2, hp, h3, g2⟩
    have c2 := HC.out _ (gb_trans HA.out.gb g2)
    have H2 := Lib.hid h2
    have Q2 := Lib.hid g2
    have S2 := Lib.hid hp
    have MID := Lib.hid (fun (W : World) (g3 : w2.grownBy W (some p)) (o : Obj) => HA.out.mid (by decide) g2 h2 g3 o)
    have MORE := Lib.hid (fun (x : RFr) (W : World) (g3 : w2.grownBy W (some p)) (h4 : RdL W p lr er) => HA.out.more (by decide) HBW.out g2 h3 hp g3 h4 (x := x))
    clear h2 hp h3 g2
    go_wp2_with fail
    refine (VR.out _ _ H2.out).mono ?_
    rintro ed w3 ⟨⟨r, rfl, hrx, hri⟩, h4, g3⟩
    have own1 := MID.out _ g3 (.cells (rfV r).toArray 91)
    have hbs : w.heap.size ≤ w3.heap.size := Nat.le_trans HA.out.gb.size (MORE.out r _ g3 h4).1
    have MO := Lib.hid (MORE.out r _ g3 h4).2
    have INS := Lib.hid (fun (o : Obj) (v4 : Value) (w4 : World) hg hn => ls_ins (o := o) (v4 := v4) (w4 := w4) hI.out HA.out HBW.out Q2.out S2.out g3 hri hg hn)
    have HLN := Lib.hid (rf_len hri.len)
    have HON := Lib.hid hri.one
    have HRX := Lib.hid hrx
    clear hrx hri
    clear c2 h4 g3
    go_wp2_with (first | refine wpList_buildK rfl 25 91 _ rfl (by rfl) Tryz.underlying25 hi hz0 hz1 (by decide) (by decide) HLN.out ?_ | (at_builtin; refine wp_joins (f := rfV) (k := 67) (l := [r]) rfl _ _ 25 rfl w.heap.size 91 i0 (frA frZ) 568 Tryz.underlying25 hi hz0 hz1 hz2 frZ_size (by decide) rfl rfl own1 (rows_made (f := rfV) w3 91 r) (fun y hy => by rw [List.mem_singleton.1 hy]; exact HLN.out) (fun y hy => by rw [List.mem_singleton.1 hy]; exact HON.out) ?a1 ?a2 ?a3 ?_; (case a1 => (have := Hout.out; simp only [List.length_cons, List.length_nil]; unfold maxLen; omega)); (case a2 => (have := Hout.out; simp only [List.length_cons, List.length_nil]; omega)); (case a3 => (rw [World.size_alloc]; omega)); intro v4 w4 own4 hg4 hn4; obtain ⟨LS4, H5⟩ := MO.out _ _ _ own4 hg4; have IN4 := Lib.hid (INS.out _ _ _ hg4 hn4); replace LS4 := Lib.hid LS4; replace H5 := Lib.hid H5; clear own4 hg4 hn4 own1))
    refine (end_any H5.out (by show (mk lr).size ≤ _; rw [mk_len]; have := Hlr.out; omega)).mono ?_
    rintro ed w5 ⟨rfl, rfl⟩
    go_wp2_with fail
    go_ret
    have e9 : T = ((out ++ [r]).map (·.x), (l2, e2)) := by rw [List.map_append, List.map_cons, List.map_nil, HRX.out]; exact HR1.out
    rw [e9]
    exact ⟨⟨_, rfl, _, rfl, Rws.ofOwn LS4.out.own rfl (fun r hr => rf_len (IN4.out r hr).len) (fun _ _ h1 h2 => ⟨h1, h2⟩), fun r hr => (IN4.out r hr).mono (fun i hi => hi.1)⟩, LS4.out.rd, LS4.out.gb⟩
  ·obtain rfl : k = n := by omega
   have HR1 := hR.out
   rw [Nat.sub_self, Pck.elems, List.append_nil] at HR1
   replace HR1 := Lib.hid HR1
   have HA := Lib.hid hA
   clear hR hF hA hk hlt
   go_wp2_with fail
   go_ret
   rw [HR1.out]
   exact ⟨⟨_, rfl, _, rfl, Rws.ofOwn HA.out.own rfl (fun r hr => rf_len (hI.out r hr).len) (fun _ _ h1 h2 => ⟨h1, h2⟩), fun r hr => (hI.out r hr).mono (fun i hi => hi.1)⟩, HA.out.rd, HA.out.gb⟩
theorem pck_list_known (V : VecOk) {w : World} {b c : Nat} {l : List UInt8} {e : Int} (h : RdL w b l e) (hc : w.cell? ⟨c, 0, none⟩ = some (.func (.func 182) #[] #[])) (hcb : c ≠ b) (hm : l.length ≤ 100000) :
  Calls Tryz.prog 280 #[.pointer (some ⟨b, 0, none⟩), .pointer (some ⟨c, 0, none⟩)] w fun ed w' => (∃ v, ed = .returned v ∧ Rws 67 itV w' (NewIn w w') v (Pck.list Pck.rdKnown l e).1 ∧ (∀ x ∈ (Pck.list Pck.rdKnown l e).1, x.v.length = 65)) ∧ RdL w' b (Pck.list Pck.rdKnown l e).2.1 (Pck.list Pck.rdKnown l e).2.2 ∧ w.grownBy w' (some b) := by
 obtain ⟨i0, hi, hz0, hz1, hz2⟩ := ver_parts itInfo
 have hbw : b < w.heap.size := Row.inHeap h
 have HC := Lib.hid (fun (W : World) (hW : w.grownBy W (some b)) => LsAt.cell hc hcb hW)
 have N1 := Lib.hid (pck_n h hm)
 have hl1 := stepN_left l e
 have hn63 := stepN_fits l e
 unfold Pck.list
 unfold Pck.rn at N1
 generalize stepN l e = s1 at *
 obtain ⟨n, l1, e1⟩ := s1
 dsimp only at hl1 hn63 N1 ⊢
 obtain ⟨T, hT⟩ : ∃ T, T = Pck.elems Pck.rdKnown n l1 e1 := ⟨_, rfl⟩
 rw [← hT]
 replace hT := Lib.hid hT
 have hn : (n : Int) ≤ 9223372036854775807 := by omega
 have HL1 : Hid (l1.length ≤ 100000) := Lib.hid (by omega)
 have HBW := Lib.hid hbw
 clear h hc hcb hm hl1 hn63 hbw
 go_enter Tryz.func280, Tryz.ntmps280
 go_wp2_with fail
 refine N1.out.mono ?_
 rintro ed w1 ⟨rfl, h1, g1⟩
 have A0 : Hid (LsAt 127 67 itV w b l1 e1 [] (.slice none 0 0) w1) := Lib.hid ⟨World.ownsRow_nil _ _ _ _, h1, g1⟩
 clear h1 g1
 go_wp2_with fail
 go_loopw [4, 8] (fun v i wr => ∃ (k : Nat) (lk : List UInt8) (ek : Int) (out : List Know.It), k ≤ n ∧ i = .int .i64 (k : Int) ∧ LsAt 127 67 itV w b lk ek out v wr ∧ Hid (∀ x ∈ out, x.v.length = 65) ∧ Hid (T = (out ++ (Pck.elems Pck.rdKnown (n - k) lk ek).1, (Pck.elems Pck.rdKnown (n - k) lk ek).2)) ∧ Hid (out.length + lk.length ≤ 100000)) (fun _ i _ => n - (intOf i).toNat)
 case atStart => exact ⟨0, l1, e1, [], Nat.zero_le _, rfl, A0.out, Lib.hid (fun _ h => (by cases h)), Lib.hid (by rw [hT.out]; rfl), Lib.hid (by simpa using HL1.out)⟩
 case round =>
  obtain ⟨k, lk, ek, out, hk, rfl, hA, hI, hR, hF⟩ := hrel
  by_cases hlt : k < n
  ·have hk0 : (k : Int) < (n : Int) := by omega
   have Hlt := Lib.hid hlt
   have hF' := hF.out
   have IN := Lib.hid (pck_inner hA.rd (by omega))
   have hle := stepT_left lk ek
   have HA := Lib.hid hA
   obtain ⟨m, hm⟩ : ∃ m, n - k = m + 1 := ⟨n - k - 1, by omega⟩
   have hm2 : n - (k + 1) = m := by omega
   have hR' := hR.out
   rw [hm, Pck.elems] at hR'
   have VR := Lib.hid (fun (W : World) (p : Nat) (h : RdL W p (stepT lk ek).1 0) => pck_known V h (by omega))
   have hrl : (Pck.rdKnown (stepT lk ek).1 0).2.1.length ≤ 100000 := Nat.le_trans (Pck.rdKnown_left _ _) (by omega)
   have hnev := fun h => Pck.rdKnown_never.some (t := (stepT lk ek).1) h
   have hless := fun h => stepT_less (l := lk) (e := ek) h
   have hx65 : (Pck.rdKnown (stepT lk ek).1 0).1.v.length = 65 := (Pck.rdKnown_bd _ _).vl
   generalize stepT lk ek = s2 at *
   obtain ⟨t, l2, e2⟩ := s2
   dsimp only at *
   generalize Pck.rdKnown t 0 = s3 at *
   obtain ⟨x, lr, er⟩ := s3
   dsimp only at *
   have HX := Lib.hid hx65
   have hout : out.length ≤ 100000 := by omega
   have Hlr := Lib.hid hrl
   clear hrl hA hle hF' hk hlt hm hR hx65
   by_cases hend : endOf lr.length er = 0
   ·rw [if_pos hend] at hR'
    have hless2 := hless (hnev hend)
    have HR1 : Hid (T = ((out ++ [x]) ++ (Pck.elems Pck.rdKnown (n - (k + 1)) l2 e2).1, (Pck.elems Pck.rdKnown (n - (k + 1)) l2 e2).2)) := Lib.hid (by rw [hR', hm2, List.append_assoc]; rfl)
    have HF1 : Hid (out.length + 1 + l2.length ≤ 100000) := Lib.hid (by have := hF.out; omega)
    have hed : (endOf lr.length er != 0) = false := by rw [hend]; rfl
    have Hout := Lib.hid hout
    clear hnev hless hR' hend hF hless2 hm2 hout
    go_wp2_with fail
    refine IN.out.mono ?_
    rintro ed w2 ⟨p, rfl, h2, hp, h3, g2⟩
    have c2 := HC.out _ (gb_trans HA.out.gb g2)
    have H2 := Lib.hid h2
    have Q2 := Lib.hid g2
    have S2 := Lib.hid hp
    have MID := Lib.hid (fun (W : World) (g3 : w2.grownBy W (some p)) (o : Obj) => HA.out.mid (by decide) g2 h2 g3 o)
    have MORE := Lib.hid (fun (x : Know.It) (W : World) (g3 : w2.grownBy W (some p)) (h4 : RdL W p lr er) => HA.out.more (by decide) HBW.out g2 h3 hp g3 h4 (x := x))
    clear h2 hp h3 g2
    go_wp2_with fail
    refine (VR.out _ _ H2.out).mono ?_
    rintro ed w3 ⟨rfl, h4, g3⟩
    have own1 := MID.out _ g3 (.cells (itV x).toArray 127)
    have hbs : w.heap.size ≤ w3.heap.size := Nat.le_trans HA.out.gb.size (MORE.out x _ g3 h4).1
    have MO := Lib.hid (MORE.out x _ g3 h4).2
    have HLN := Lib.hid (it_len HX.out)
    have HON := Lib.hid (it_one x)
    clear c2 h4 g3
    go_wp2_with (first | refine wpList_buildK rfl 26 127 _ rfl (by rfl) Tryz.underlying26 hi hz0 hz1 (by decide) (by decide) HLN.out ?_ | (at_builtin; refine wp_joins (f := itV) (k := 67) (l := [x]) rfl _ _ 26 rfl w.heap.size 127 i0 (itA itZ) 536 Tryz.underlying26 hi hz0 hz1 hz2 itZ_size (by decide) rfl rfl own1 (rows_made (f := itV) w3 127 x) (fun y hy => by rw [List.mem_singleton.1 hy]; exact HLN.out) (fun y hy => by rw [List.mem_singleton.1 hy]; exact HON.out) ?a1 ?a2 ?a3 ?_; (case a1 => (have := Hout.out; simp only [List.length_cons, List.length_nil]; unfold maxLen; omega)); (case a2 => (have := Hout.out; simp only [List.length_cons, List.length_nil]; omega)); (case a3 => (rw [World.size_alloc]; omega)); intro v4 w4 own4 hg4 hn4; obtain ⟨LS4, H5⟩ := MO.out _ _ _ own4 hg4; have IN4 : Hid (∀ y ∈ out ++ [x], y.v.length = 65) := Lib.hid (fun y hy => (List.mem_append.1 hy).elim (fun h => hI.out y h) (fun h => by rw [List.mem_singleton.1 h]; exact HX.out)); replace LS4 := Lib.hid LS4; replace H5 := Lib.hid H5; clear own4 hg4 hn4 own1))
    refine (end_any H5.out (by show (mk lr).size ≤ _; rw [mk_len]; have := Hlr.out; omega)).mono ?_
    rintro ed w5 ⟨rfl, rfl⟩
    go_wp2_with fail
    go_roundw
    case rel => exact ⟨k + 1, l2, e2, _, by have := Hlt.out; omega, by go_num, LS4.out, IN4, Lib.hid HR1.out, Lib.hid (by have := HF1.out; rw [List.length_append, List.length_singleton]; omega)⟩
    case measure => (have := Hlt.out; simp [intOf]; omega)
   ·rw [if_neg hend] at hR'
    have HR1 : Hid (T = ((out ++ [x]), (l2, e2))) := Lib.hid hR'
    have hed : (endOf lr.length er != 0) = true := by simpa using hend
    have Hout := Lib.hid hout
    clear hnev hless hR' hend hF hm2 hout
    go_wp2_with fail
    refine IN.out.mono ?_
    rintro ed w2 ⟨p, rfl, h2, hp, h3, g2⟩
    have c2 := HC.out _ (gb_trans HA.out.gb g2)
    have H2 := Lib.hid h2
    have Q2 := Lib.hid g2
    have S2 := Lib.hid hp
    have MID := Lib.hid (fun (W : World) (g3 : w2.grownBy W (some p)) (o : Obj) => HA.out.mid (by decide) g2 h2 g3 o)
    have MORE := Lib.hid (fun (x : Know.It) (W : World) (g3 : w2.grownBy W (some p)) (h4 : RdL W p lr er) => HA.out.more (by decide) HBW.out g2 h3 hp g3 h4 (x := x))
    clear h2 hp h3 g2
    go_wp2_with fail
    refine (VR.out _ _ H2.out).mono ?_
    rintro ed w3 ⟨rfl, h4, g3⟩
    have own1 := MID.out _ g3 (.cells (itV x).toArray 127)
    have hbs : w.heap.size ≤ w3.heap.size := Nat.le_trans HA.out.gb.size (MORE.out x _ g3 h4).1
    have MO := Lib.hid (MORE.out x _ g3 h4).2
    have HLN := Lib.hid (it_len HX.out)
    have HON := Lib.hid (it_one x)
    clear c2 h4 g3
    go_wp2_with (first | refine wpList_buildK rfl 26 127 _ rfl (by rfl) Tryz.underlying26 hi hz0 hz1 (by decide) (by decide) HLN.out ?_ | (at_builtin; refine wp_joins (f := itV) (k := 67) (l := [x]) rfl _ _ 26 rfl w.heap.size 127 i0 (itA itZ) 536 Tryz.underlying26 hi hz0 hz1 hz2 itZ_size (by decide) rfl rfl own1 (rows_made (f := itV) w3 127 x) (fun y hy => by rw [List.mem_singleton.1 hy]; exact HLN.out) (fun y hy => by rw [List.mem_singleton.1 hy]; exact HON.out) ?a1 ?a2 ?a3 ?_; (case a1 => (have := Hout.out; simp only [List.length_cons, List.length_nil]; unfold maxLen; omega)); (case a2 => (have := Hout.out; simp only [List.length_cons, List.length_nil]; omega)); (case a3 => (rw [World.size_alloc]; omega)); intro v4 w4 own4 hg4 hn4; obtain ⟨LS4, H5⟩ := MO.out _ _ _ own4 hg4; have IN4 : Hid (∀ y ∈ out ++ [x], y.v.length = 65) := Lib.hid (fun y hy => (List.mem_append.1 hy).elim (fun h => hI.out y h) (fun h => by rw [List.mem_singleton.1 h]; exact HX.out)); replace LS4 := Lib.hid LS4; replace H5 := Lib.hid H5; clear own4 hg4 hn4 own1))
    refine (end_any H5.out (by show (mk lr).size ≤ _; rw [mk_len]; have := Hlr.out; omega)).mono ?_
    rintro ed w5 ⟨rfl, rfl⟩
    go_wp2_with fail
    go_ret
    have e9 : T = (out ++ [x], (l2, e2)) := by exact HR1.out
    rw [e9]
    exact ⟨⟨_, rfl, Rws.ofOwn LS4.out.own rfl (fun x hx => it_len (IN4.out x hx)) (fun _ _ h1 h2 => ⟨h1, h2⟩), IN4.out⟩, LS4.out.rd, LS4.out.gb⟩
  ·obtain rfl : k = n := by omega
   have HR1 := hR.out
   rw [Nat.sub_self, Pck.elems, List.append_nil] at HR1
   replace HR1 := Lib.hid HR1
   have HA := Lib.hid hA
   clear hR hF hA hk hlt
   go_wp2_with fail
   go_ret
   rw [HR1.out]
   exact ⟨⟨_, rfl, Rws.ofOwn HA.out.own rfl (fun x hx => it_len (hI.out x hx)) (fun _ _ h1 h2 => ⟨h1, h2⟩), hI.out⟩, HA.out.rd, HA.out.gb⟩
theorem pck_know (V : VecOk) {w : World} {b : Nat} {l : List UInt8} {e : Int} (h : RdL w b l e) (hm : l.length ≤ 100000) :
  Calls Tryz.prog 93 #[.pointer (some ⟨b, 0, none⟩)] w fun ed w' => (∃ v, ed = .returned v ∧ Kns w' (fun i => w.heap.size < i) v (Pck.rdKnow l e).1) ∧ RdL w' b (Pck.rdKnow l e).2.1 (Pck.rdKnow l e).2.2 ∧ w.grownBy w' (some b) := by
 have hz := knZero
 have h1 := stepT_left l e
 have h2 := stepT_left (stepT l e).2.1 (stepT l e).2.2
 have hR : Pck.rdKnow l e = (⟨(Pck.list Pck.rdFrag (stepT l e).1 0).1, (Pck.list Pck.rdKnown (stepT (stepT l e).2.1 (stepT l e).2.2).1 0).1⟩, (stepT (stepT l e).2.1 (stepT l e).2.2).2) := rfl
 rw [hR]
 clear hR
 have B0 := Lib.hid (RdB.start h #[.slice none 0 0, .slice none 0 0] 28)
 have I1 := Lib.hid (fun (W : World) (h : RdL W b l e) => pck_inner h (by omega))
 generalize stepT l e = s1 at *
 obtain ⟨t1, l1, e1⟩ := s1
 dsimp only at h1 h2 I1 ⊢
 have I2 := Lib.hid (fun (W : World) (h : RdL W b l1 e1) => pck_inner h (by omega))
 generalize stepT l1 e1 = s2 at *
 obtain ⟨t2, l2, e2⟩ := s2
 dsimp only at h2 I2 ⊢
 have L1 := Lib.hid (fun (W : World) (c2 p : Nat) (h : RdL W p t1 0) (hc : W.cell? ⟨c2, 0, none⟩ = _) (hn : c2 ≠ p) => pck_list_frag V h hc hn (by omega))
 have L2 := Lib.hid (fun (W : World) (c2 p : Nat) (h : RdL W p t2 0) (hc : W.cell? ⟨c2, 0, none⟩ = _) (hn : c2 ≠ p) => pck_list_known V h hc hn (by omega))
 generalize Pck.list Pck.rdFrag t1 0 = q1 at *
 generalize Pck.list Pck.rdKnown t2 0 = q2 at *
 obtain ⟨fs, lf, ef⟩ := q1
 obtain ⟨is, li, ei⟩ := q2
 dsimp only at L1 L2 ⊢
 have R1 := Lib.hid pck_rlist_frag
 have R2 := Lib.hid pck_rlist_known
 clear h h1 h2 hm V
 go_enter Tryz.func93, Tryz.ntmps93
 go_wp2_with fail
 refine (R1.out _).mono ?_
 rintro ed w1 ⟨c1, rfl, hc, hb⟩
 have C1 := Lib.hid hc
 have B1 := Lib.hid (B0.out.below hb)
 have N1 := Lib.hid (rd_ne B1.out.rd hc)
 clear hc hb
 go_wp2_with fail
 refine (I1.out _ B1.out.rd).mono ?_
 rintro ed w2 ⟨p2, rfl, h2, hp, h3, g2⟩
 have P2 := Lib.hid h2
 have B2 := Lib.hid (B1.out.inner h3 g2)
 have S2 := Lib.hid hp
 have C2 := Lib.hid (C1.out.grown g2 (fun q => N1.out (by injection q with q; exact q.symm)))
 have M2 : Hid (c1 ≠ p2) := Lib.hid (by have := Row.inHeap C1.out; omega)
 clear h2 hp h3 g2
 go_wp2_with fail
 refine (L1.out _ _ _ P2.out (C2.out.at 0) M2.out).mono ?_
 rintro ed w3 ⟨⟨v3, rfl, rs, hrx, hu, hri⟩, -, g3⟩
 have hz2 := B2.out.size
 have hz1 := B1.out.size
 have hz3 := S2.out
 have B3 := Lib.hid (B2.out.part g3 (by omega))
 have U3 := Lib.hid (rws_new hu hz2)
 have V3 : Hid (∀ r ∈ rs, r.In w3 (fun i => w.heap.size < i)) := Lib.hid (fun r hr => (hri r hr).mono (fun i hi => by have hi : w2.heap.size ≤ i := hi; show w.heap.size < i; omega))
 have RX := Lib.hid hrx
 clear hu hrx hri g3 hz1 hz2 hz3
 go_wp2_with fail
 refine (R2.out _).mono ?_
 rintro ed w4 ⟨c3, rfl, hc, hb⟩
 have C4 := Lib.hid hc
 have B4 := Lib.hid (B3.out.below hb)
 have N4 := Lib.hid (rd_ne B4.out.rd hc)
 have U4 := Lib.hid (Rws.below U3.out hb)
 have V4 : Hid (∀ r ∈ rs, r.In w4 (fun i => w.heap.size < i)) := Lib.hid (fun r hr => (V3.out r hr).below hb)
 clear hc hb
 go_wp2_with fail
 refine (I2.out _ B4.out.rd).mono ?_
 rintro ed w5 ⟨p5, rfl, h2, hp, h3, g2⟩
 have P5 := Lib.hid h2
 have B5 := Lib.hid (B4.out.inner h3 g2)
 have S5 := Lib.hid hp
 have C5 := Lib.hid (C4.out.grown g2 (fun q => N4.out (by injection q with q; exact q.symm)))
 have M5 : Hid (c3 ≠ p5) := Lib.hid (by have := Row.inHeap C4.out; omega)
 have Q5 := Lib.hid g2
 clear h2 hp h3 g2
 go_wp2_with fail
 refine (L2.out _ _ _ P5.out (C5.out.at 0) M5.out).mono ?_
 rintro ed w6 ⟨⟨v6, rfl, hu, h65⟩, -, g3⟩
 have hz2 := B4.out.size
 have hz3 := S5.out
 have hz4 := B5.out.size
 have B6 := Lib.hid (B5.out.part g3 (by omega))
 have N6 := Lib.hid (rws_new hu hz4)
 have U6 := Lib.hid (rws_two U4.out Q5.out (Nat.le_of_lt B4.out.hb) g3 S5.out)
 have V6 : Hid (∀ r ∈ rs, r.In w6 (fun i => w.heap.size < i)) := Lib.hid (fun r hr => rin_two (V4.out r hr) Q5.out (Nat.le_of_lt B4.out.hb) g3 S5.out)
 have I65 := Lib.hid h65
 clear hu g3 hz2 hz3 hz4 h65
 obtain ⟨A, ca, e1, -⟩ := U6.out.parts
 obtain ⟨A2, ca2, e2, -⟩ := N6.out.parts
 subst e1 e2
 go_wp2_with (refine wpList_rstore (cs := [.slice A rs.length ca, .slice A2 is.length ca2]) (by rfl) (.tmp 2) (.tmp 11) (by rfl) (by rfl) (by rfl) B6.out.box (knSize _ _) rfl (two_one rfl rfl) ?_)
 rintro w9 hr9 hk9
 have hw9 := B6.out.set hk9
 have R9 := Lib.hid hr9
 have D9 := Lib.hid hw9
 have F9 := Lib.hid (rws_set U6.out hk9)
 have V9 : Hid (∀ r ∈ rs, r.In w9 (fun i => w.heap.size < i)) := Lib.hid (fun r hr => rin_set (V6.out r hr) hk9)
 have E9 := Lib.hid (rws_set N6.out hk9)
 clear hr9 hk9 hw9
 go_wp2_with fail
 exact bodyPost_ret (v := .agg #[.slice A rs.length ca, .slice A2 is.length ca2]) (results_cell_row (by rfl) _ _ w.heap.size 28 _ (0, 0) _ (by rfl) R9.out Tryz.underlying28 rfl (knSizeA _ _)) rfl ⟨⟨_, rfl, ⟨_, _, rfl, ⟨rs, RX.out, F9.out, V9.out⟩, E9.out, I65.out⟩⟩, D9.out.1, D9.out.2⟩
end Go.Proofs.YtpafpegcodempaaGreat
