import Derived.Test.YtkcgmnhjofoeiaaGreatCom26
import Derived.Test.YtkcgmnhjofoeiaaGreatCom11
set_option maxRecDepth 100000
set_option linter.all false
set_option maxHeartbeats 12800000
namespace Go.Proofs.YtkcgmnhjofoeiaaGreat
open Go.RowKit Go.Sort
structure KForm (k : Know.K) : Prop where
 fr : k.frags.length ≤ 99999
 it : k.items.length ≤ 99999
 form : ∀ x ∈ k.frags, FrForm x ∧ FrBd x
 apart : ∀ (i j : Nat) (x y : Know.Fr), i ≠ j → k.frags[i]? = some x → k.frags[j]? = some y → ¬ Know.Incl x y ∧ ¬ (x.v = y.v ∧ x.no = y.no)
 its : ∀ i ∈ k.items, Vec.Plain i.v ∧ Vec.ends i.v ≠ []
 up : ∀ (n : Nat) (x y : Know.It), k.items[n]? = some x → k.items[n + 1]? = some y → Ver.Before x.item y.item
theorem fr_in_at {rs : List RFr} {l : List Know.Fr} (h : rs.map (·.x) = l) {n : Nat} {r : RFr} (hr : rs[n]? = some r) : l[n]? = some r.x := by
 rw [← h, List.getElem?_map, hr]; rfl
theorem ref_kform {w : World} {F : Nat → Prop} {v : Value} {k : Know.K} (h : Kns w F v k) (hk : KForm k) :
  Calls Tryz.prog 12 #[v] w fun e w' => e = .returned (.bool true) ∧ Below w.heap.size w w' := by
 have mixed : Tryz.prog.follows .mixedOrders = true := by kernel_rfl
 obtain ⟨a, b, rfl, ⟨rs, hrx, hrr, hri⟩, hi⟩ := h
 obtain ⟨A, ca, rfl, -⟩ := hrr.parts
 obtain ⟨B, cb, rfl, -⟩ := hi.1.parts
 have hfl : rs.length ≤ 99999 := by have := hk.fr; rw [← hrx, List.length_map] at this; exact this
 obtain ⟨W0, hW0⟩ : ∃ W0, W0 = w.alloc (.cells #[.slice A rs.length ca, .slice B k.items.length cb] 25) := ⟨_, rfl⟩
 have hb0 : Below w.heap.size w W0 := by rw [hW0]; exact (Below.refl _ _).alloc (Nat.le_refl _) _
 have r0 : Row W0 w.heap.size 25 #[.slice A rs.length ca, .slice B k.items.length cb] := by rw [hW0]; exact Row.made w _ _
 have XC := Lib.hid (fun (W : World) (h : Below W0.heap.size W0 W) => (⟨(r0.below h r0.inHeap).at 0, (r0.below h r0.inHeap).at 1⟩ : W.cell? ⟨w.heap.size, 0, none⟩ = some (.slice A rs.length ca) ∧ W.cell? ⟨w.heap.size, 1, none⟩ = some (.slice B k.items.length cb)))
 have HR := Lib.hid (fun (W : World) (h : Below W0.heap.size W0 W) => Rws.below (Rws.below hrr hb0) h)
 have HN := Lib.hid (fun (W : World) (h : Below W0.heap.size W0 W) (r : RFr) (hr : r ∈ rs) => ((hri r hr).below hb0).below h)
 have HI := Lib.hid (fun (W : World) (h : Below W0.heap.size W0 W) => (hi.below hb0).below h)
 have HX := Lib.hid (fun (n : Nat) (r : RFr) (h : rs[n]? = some r) => fr_in_at hrx h)
 have HK := Lib.hid hk
 have HB0 := Lib.hid hb0
 have hf0 : (rs.length : Int) ≤ 99999 := by omega
 have hi0 : (k.items.length : Int) ≤ 99999 := by have := hk.it; omega
 clear hrr hri hi hrx hk hb0 r0 hfl
 go_enter Tryz.func12, Tryz.ntmps12
 go_wp2_with fail
 rw [← hW0]
 clear hW0
 go_loopw [3] (fun i wr => ∃ n : Nat, n ≤ rs.length ∧ i = .int .i64 (n : Int) ∧ Hid (Below W0.heap.size W0 wr)) (fun i _ => rs.length - (intOf i).toNat)
 case atStart => exact ⟨0, Nat.zero_le _, rfl, Lib.hid (Below.refl _ _)⟩
 case round =>
  obtain ⟨n, hn, rfl, hb⟩ := hrel
  obtain ⟨c0, c1⟩ := XC.out _ hb.out
  by_cases hlt : n < rs.length
  ·obtain ⟨bk, o, cap1, e, -, -, hbk⟩ := (HR.out W0 (Below.refl _ _)).block (by omega)
   injection e with e1 e2 e3
   subst e1 e3
   clear e2
   obtain ⟨r, hr⟩ : ∃ r, rs[n]? = some r := ⟨_, List.getElem?_eq_getElem hlt⟩
   have hrm := List.mem_of_getElem? hr
   have hIn := HN.out wr hb.out r hrm
   have hx := HX.out n r hr
   have LE := Lib.hid ((FrAt.elem (HR.out wr hb.out) hr hIn.len).all)
   have FG := Lib.hid (ref_kfrag hIn (HK.out.form r.x (List.mem_of_getElem? hx)).2 (HK.out.form r.x (List.mem_of_getElem? hx)).1)
   have HRn := Lib.hid hr
   have hn0 : (0 : Int) ≤ (n : Int) := by omega
   have hn1 : (n : Int) < (rs.length : Int) := by omega
   have hn2 : (n : Int) ≤ 99999 := by omega
   clear hr hIn hx hrm
   go_wp2_with (refine wpList_mload (by rfl) _ (by rfl) (by rfl) LE.out ?_)
   refine (FG.out).mono ?_
   rintro e w4 ⟨rfl, h4⟩
   have HB4 := Lib.hid (hb.out.trans (h4.mono hb.out.size))
   clear h4 c0 c1 LE FG hb
   go_wp2_with fail
   go_loopw [4] (fun i W => ∃ m : Nat, m ≤ rs.length ∧ i = .int .i64 (m : Int) ∧ Hid (Below W0.heap.size W0 W)) (fun i _ => rs.length - (intOf i).toNat)
   case atStart => exact ⟨0, Nat.zero_le _, rfl, HB4⟩
   case round =>
    obtain ⟨m, hm, rfl, hb⟩ := hrel
    obtain ⟨c0, c1⟩ := XC.out _ hb.out
    by_cases hlt2 : m < rs.length
    ·obtain ⟨s, hs⟩ : ∃ s, rs[m]? = some s := ⟨_, List.getElem?_eq_getElem hlt2⟩
     have hm0 : (0 : Int) ≤ (m : Int) := by omega
     have hm1 : (m : Int) < (rs.length : Int) := by omega
     have hm2 : (m : Int) ≤ 99999 := by omega
     have XD := Lib.hid (fun (W : World) (h : InB wr W) => XC.out W (hb.out.trans (h.below.mono hb.out.size)))
     have hrm := List.mem_of_getElem? HRn.out
     have hsm := List.mem_of_getElem? hs
     have LR := Lib.hid (fun (W : World) (h : InB wr W) => (FrAt.elem (HR.out W (hb.out.trans (h.below.mono hb.out.size))) HRn.out (HN.out W0 (Below.refl _ _) r hrm).len))
     have LS := Lib.hid (fun (W : World) (h : InB wr W) => (FrAt.elem (HR.out W (hb.out.trans (h.below.mono hb.out.size))) hs (HN.out W0 (Below.refl _ _) s hsm).len))
     by_cases hmn : m = n
     ·subst hmn
      clear hs hsm hrm LS
      go_wp2_with fail
      refine wp_region_below (by assumption) (by kernel_rfl) ?_
      refine wq_td ?_
      simp only [zz]
      refine wq_td ?_
      simp only [zz]
      refine wq_td ?_
      simp only [zz]
      refine wq_td ?_
      simp only [zz]
      refine wq_skip (by kernel_rfl) ?_
      simp only [zz]
      refine wq_skip (by kernel_rfl) ?_
      simp only [zz]
      refine wq_skip (by kernel_rfl) ?_
      simp only [zz]
      refine wq_skip (by kernel_rfl) ?_
      simp only [zz]
      refine wq_skip (by kernel_rfl) ?_
      simp only [zz]
      refine wq_skip (by kernel_rfl) ?_
      simp only [zz]
      refine wq_skip (by kernel_rfl) ?_
      simp only [zz]
      refine wq_skip (by kernel_rfl) ?_
      simp only [zz]
      refine wq_skip (by kernel_rfl) ?_
      simp only [zz]
      refine wq_skip (by kernel_rfl) ?_
      simp only [zz]
      refine wq_skip (by kernel_rfl) ?_
      simp only [zz]
      refine wq_td ?_
      simp only [zz]
      refine wq_nil ?_
      intro wq hq
      have HQ1 := Lib.hid hq
      clear hq
      go_wp2_with fail
      refine wp_region_below (by assumption) (by kernel_rfl) ?_
      refine wq_td ?_
      simp only [zz]
      refine wq_td ?_
      simp only [zz]
      refine wq_td ?_
      simp only [zz]
      refine wq_td ?_
      simp only [zz]
      refine wq_skip (by kernel_rfl) ?_
      simp only [zz]
      refine wq_skip (by kernel_rfl) ?_
      simp only [zz]
      refine wq_skip (by kernel_rfl) ?_
      simp only [zz]
      refine wq_skip (by kernel_rfl) ?_
      simp only [zz]
      refine wq_skip (by kernel_rfl) ?_
      simp only [zz]
      refine wq_skip (by kernel_rfl) ?_
      simp only [zz]
      refine wq_skip (by kernel_rfl) ?_
      simp only [zz]
      refine wq_skip (by kernel_rfl) ?_
      simp only [zz]
      refine wq_skip (by kernel_rfl) ?_
      simp only [zz]
      refine wq_skip (by kernel_rfl) ?_
      simp only [zz]
      refine wq_skip (by kernel_rfl) ?_
      simp only [zz]
      refine wq_skip (by kernel_rfl) ?_
      simp only [zz]
      refine wq_skip (by kernel_rfl) ?_
      simp only [zz]
      refine wq_td ?_
      simp only [zz]
      refine wq_td ?_
      simp only [zz]
      refine wq_skip (by kernel_rfl) ?_
      simp only [zz]
      refine wq_skip (by kernel_rfl) ?_
      simp only [zz]
      refine wq_skip (by kernel_rfl) ?_
      simp only [zz]
      refine wq_skip (by kernel_rfl) ?_
      simp only [zz]
      refine wq_skip (by kernel_rfl) ?_
      simp only [zz]
      refine wq_skip (by kernel_rfl) ?_
      simp only [zz]
      refine wq_skip (by kernel_rfl) ?_
      simp only [zz]
      refine wq_skip (by kernel_rfl) ?_
      simp only [zz]
      refine wq_skip (by kernel_rfl) ?_
      simp only [zz]
      refine wq_skip (by kernel_rfl) ?_
      simp only [zz]
      refine wq_skip (by kernel_rfl) ?_
      simp only [zz]
      refine wq_skip (by kernel_rfl) ?_
      simp only [zz]
      refine wq_skip (by kernel_rfl) ?_
      simp only [zz]
      refine wq_td ?_
      simp only [zz]
      refine wq_nil ?_
      intro wq hq
      have HQ1 := Lib.hid (InB.trans HQ1.out hq.below)
      clear hq
      have HQ := Lib.hid (hb.out.trans (HQ1.out.below.mono hb.out.size))
      go_wp2_with fail
      exact ⟨⟨m + 1, by omega, by go_num, HQ⟩, by show rs.length - ((m : Int) + 1).toNat < rs.length - (m : Int).toNat; omega⟩
     ·have hmn2 : ((m : Int) != (n : Int)) = true := by simp; omega
      have hap := HK.out.apart m n s.x r.x hmn (HX.out m s hs) (HX.out n r HRn.out)
      have KH := Lib.hid (fun (W : World) (h : InB wr W) => ref_khas (HN.out W (hb.out.trans (h.below.mono hb.out.size)) s hsm) (HN.out W (hb.out.trans (h.below.mono hb.out.size)) r hrm) (HK.out.form s.x (List.mem_of_getElem? (HX.out m s hs))).2 (HK.out.form r.x (List.mem_of_getElem? (HX.out n r HRn.out))).2)
      rw [decide_eq_false hap.1] at KH
      have L1 := Lib.hid (fun (W : World) (h : InB wr W) => (LS.out W h).all)
      have L2 := Lib.hid (fun (W : World) (h : InB wr W) => (LR.out W h).all)
      have V1 := Lib.hid (fun (W : World) (h : InB wr W) => (LS.out W h).v)
      have V2 := Lib.hid (fun (W : World) (h : InB wr W) => (LR.out W h).v)
      have hs65 := (HN.out W0 (Below.refl _ _) s hsm).len
      have hr65 := (HN.out W0 (Below.refl _ _) r hrm).len
      have ve := fun w => vec_eqL hs65 hr65 w
      by_cases hv : s.x.v = r.x.v
      ·have hno : ¬ s.x.no = r.x.no := fun e => hap.2 ⟨hv, e⟩
       rw [decide_eq_true hv] at ve
       obtain ⟨A1, a1, e1, -⟩ := (HN.out W0 (Below.refl _ _) s hsm).no.parts
       obtain ⟨A2, a2, e2, -⟩ := (HN.out W0 (Below.refl _ _) r hrm).no.parts
       have SM := Lib.hid (fun (W : World) (h : InB wr W) => ref_vsame (HN.out W (hb.out.trans (h.below.mono hb.out.size)) s hsm).no (HN.out W (hb.out.trans (h.below.mono hb.out.size)) r hrm).no (HK.out.form s.x (List.mem_of_getElem? (HX.out m s hs))).2.no (HK.out.form r.x (List.mem_of_getElem? (HX.out n r HRn.out))).2.no)
       rw [decide_eq_false hno, e1, e2] at SM
       have XN := Lib.hid (fun (W : World) (h : InB wr W) => And.intro ((LS.out W h).no.trans (congrArg some e1)) ((LR.out W h).no.trans (congrArg some e2)))
       clear e1 e2 hs65 hr65 hap hv hno hs hsm hrm LR LS
       go_wp2_with fail
       refine wp_region_below (by assumption) (by kernel_rfl) ?_
       refine wq_td ?_
       simp only [zz]
       refine wq_td ?_
       simp only [zz]
       refine wq_td ?_
       simp only [zz]
       refine wq_td ?_
       simp only [zz]
       refine wq_td ?_
       simp only [zz]
       (first | (refine wq_mload (by kernel_rfl) _ (by rfl) (by rfl) L1.out ?_) | (refine wq_mload (by kernel_rfl) _ (by rfl) (by rfl) L2.out ?_) | (refine wq_take (v := ?_) (by kernel_rfl) (by intro w hSw; have hXD := XD.out w hSw; go_simp; first | done | with_reducible rfl) ?_))
       simp only [zz]
       refine wq_td ?_
       simp only [zz]
       refine wq_td ?_
       simp only [zz]
       (first | (refine wq_mload (by kernel_rfl) _ (by rfl) (by rfl) L1.out ?_) | (refine wq_mload (by kernel_rfl) _ (by rfl) (by rfl) L2.out ?_) | (refine wq_take (v := ?_) (by kernel_rfl) (by intro w hSw; have hXD := XD.out w hSw; go_simp; first | done | with_reducible rfl) ?_))
       simp only [zz]
       refine wq_td ?_
       simp only [zz]
       (first | (refine wq_mload (by kernel_rfl) _ (by rfl) (by rfl) L1.out ?_) | (refine wq_mload (by kernel_rfl) _ (by rfl) (by rfl) L2.out ?_) | (refine wq_take (v := ?_) (by kernel_rfl) (by intro w hSw; have hXD := XD.out w hSw; go_simp; first | done | with_reducible rfl) ?_))
       simp only [zz]
       refine wq_td ?_
       simp only [zz]
       refine wq_td ?_
       simp only [zz]
       (first | (refine wq_mload (by kernel_rfl) _ (by rfl) (by rfl) L1.out ?_) | (refine wq_mload (by kernel_rfl) _ (by rfl) (by rfl) L2.out ?_) | (refine wq_take (v := ?_) (by kernel_rfl) (by intro w hSw; have hXD := XD.out w hSw; go_simp; first | done | with_reducible rfl) ?_))
       simp only [zz]
       refine wq_call (by kernel_rfl) ?hent (fun w hSw => inB_calls hSw (KH.out w hSw)) ?_; (case hent => (intro w hSw; go_simp; done))
       simp only [zz]
       refine wq_td ?_
       simp only [zz]
       refine wq_nil ?_
       intro wq hq
       have HQ1 := Lib.hid hq
       clear hq
       go_wp2_with fail
       have XDq := Lib.hid (fun (W : World) (h : InB wq W) => XD.out W (InB.trans HQ1.out h.below))
       have V1q := Lib.hid (fun (W : World) (h : InB wq W) => V1.out W (InB.trans HQ1.out h.below))
       have V2q := Lib.hid (fun (W : World) (h : InB wq W) => V2.out W (InB.trans HQ1.out h.below))
       have SMq := Lib.hid (fun (W : World) (h : InB wq W) => SM.out W (InB.trans HQ1.out h.below))
       have XNq := Lib.hid (fun (W : World) (h : InB wq W) => XN.out W (InB.trans HQ1.out h.below))
       refine wp_region_below (by assumption) (by kernel_rfl) ?_
       refine wq_td ?_
       simp only [zz]
       refine wq_td ?_
       simp only [zz]
       refine wq_td ?_
       simp only [zz]
       refine wq_td ?_
       simp only [zz]
       refine wq_td ?_
       simp only [zz]
       (first | (refine wq_mload (by kernel_rfl) _ (by rfl) (by rfl) V1q.out ?_) | (refine wq_mload (by kernel_rfl) _ (by rfl) (by rfl) V2q.out ?_) | (refine wq_take (v := ?_) (by kernel_rfl) (by intro w hSw; have hXDq := XDq.out w hSw; have hXNq := XNq.out w hSw; go_simp; first | done | with_reducible rfl) ?_))
       simp only [zz]
       refine wq_td ?_
       simp only [zz]
       refine wq_td ?_
       simp only [zz]
       refine wq_td ?_
       simp only [zz]
       (first | (refine wq_mload (by kernel_rfl) _ (by rfl) (by rfl) V1q.out ?_) | (refine wq_mload (by kernel_rfl) _ (by rfl) (by rfl) V2q.out ?_) | (refine wq_take (v := ?_) (by kernel_rfl) (by intro w hSw; have hXDq := XDq.out w hSw; have hXNq := XNq.out w hSw; go_simp; first | done | with_reducible rfl) ?_))
       simp only [zz]
       refine wq_td ?_
       simp only [zz]
       (first | (refine wq_mload (by kernel_rfl) _ (by rfl) (by rfl) V1q.out ?_) | (refine wq_mload (by kernel_rfl) _ (by rfl) (by rfl) V2q.out ?_) | (refine wq_take (v := ?_) (by kernel_rfl) (by intro w hSw; have hXDq := XDq.out w hSw; have hXNq := XNq.out w hSw; go_simp; first | done | with_reducible rfl) ?_))
       simp only [zz]
       refine wq_td ?_
       simp only [zz]
       refine wq_td ?_
       simp only [zz]
       refine wq_td ?_
       simp only [zz]
       (first | (refine wq_mload (by kernel_rfl) _ (by rfl) (by rfl) V1q.out ?_) | (refine wq_mload (by kernel_rfl) _ (by rfl) (by rfl) V2q.out ?_) | (refine wq_take (v := ?_) (by kernel_rfl) (by intro w hSw; have hXDq := XDq.out w hSw; have hXNq := XNq.out w hSw; go_simp; first | done | with_reducible rfl) ?_))
       simp only [zz]
       refine wq_td ?_
       simp only [zz]
       refine wq_td ?_
       simp only [zz]
       refine wq_td ?_
       simp only [zz]
       refine wq_td ?_
       simp only [zz]
       (first | (refine wq_mload (by kernel_rfl) _ (by rfl) (by rfl) V1q.out ?_) | (refine wq_mload (by kernel_rfl) _ (by rfl) (by rfl) V2q.out ?_) | (refine wq_take (v := ?_) (by kernel_rfl) (by intro w hSw; have hXDq := XDq.out w hSw; have hXNq := XNq.out w hSw; go_simp; first | done | with_reducible rfl) ?_))
       simp only [zz]
       refine wq_td ?_
       simp only [zz]
       refine wq_td ?_
       simp only [zz]
       refine wq_td ?_
       simp only [zz]
       (first | (refine wq_mload (by kernel_rfl) _ (by rfl) (by rfl) V1q.out ?_) | (refine wq_mload (by kernel_rfl) _ (by rfl) (by rfl) V2q.out ?_) | (refine wq_take (v := ?_) (by kernel_rfl) (by intro w hSw; have hXDq := XDq.out w hSw; have hXNq := XNq.out w hSw; go_simp; first | done | with_reducible rfl) ?_))
       simp only [zz]
       refine wq_td ?_
       simp only [zz]
       (first | (refine wq_mload (by kernel_rfl) _ (by rfl) (by rfl) V1q.out ?_) | (refine wq_mload (by kernel_rfl) _ (by rfl) (by rfl) V2q.out ?_) | (refine wq_take (v := ?_) (by kernel_rfl) (by intro w hSw; have hXDq := XDq.out w hSw; have hXNq := XNq.out w hSw; go_simp; first | done | with_reducible rfl) ?_))
       simp only [zz]
       refine wq_td ?_
       simp only [zz]
       refine wq_td ?_
       simp only [zz]
       refine wq_td ?_
       simp only [zz]
       (first | (refine wq_mload (by kernel_rfl) _ (by rfl) (by rfl) V1q.out ?_) | (refine wq_mload (by kernel_rfl) _ (by rfl) (by rfl) V2q.out ?_) | (refine wq_take (v := ?_) (by kernel_rfl) (by intro w hSw; have hXDq := XDq.out w hSw; have hXNq := XNq.out w hSw; go_simp; first | done | with_reducible rfl) ?_))
       simp only [zz]
       refine wq_call (by kernel_rfl) ?hent (fun w hSw => inB_calls hSw (SMq.out w hSw)) ?_; (case hent => (intro w hSw; go_simp; done))
       simp only [zz]
       refine wq_td ?_
       simp only [zz]
       refine wq_nil ?_
       intro wq hq
       have HQ1 := Lib.hid (InB.trans HQ1.out hq.below)
       clear hq
       have HQ := Lib.hid (hb.out.trans (HQ1.out.below.mono hb.out.size))
       go_wp2_with fail
       exact ⟨⟨m + 1, by omega, by go_num, HQ⟩, by show rs.length - ((m : Int) + 1).toNat < rs.length - (m : Int).toNat; omega⟩
      ·rw [decide_eq_false hv] at ve
       clear hs65 hr65 hap hv hs hsm hrm LR LS
       go_wp2_with fail
       refine wp_region_below (by assumption) (by kernel_rfl) ?_
       refine wq_td ?_
       simp only [zz]
       refine wq_td ?_
       simp only [zz]
       refine wq_td ?_
       simp only [zz]
       refine wq_td ?_
       simp only [zz]
       refine wq_td ?_
       simp only [zz]
       (first | (refine wq_mload (by kernel_rfl) _ (by rfl) (by rfl) L1.out ?_) | (refine wq_mload (by kernel_rfl) _ (by rfl) (by rfl) L2.out ?_) | (refine wq_take (v := ?_) (by kernel_rfl) (by intro w hSw; have hXD := XD.out w hSw; go_simp; first | done | with_reducible rfl) ?_))
       simp only [zz]
       refine wq_td ?_
       simp only [zz]
       refine wq_td ?_
       simp only [zz]
       (first | (refine wq_mload (by kernel_rfl) _ (by rfl) (by rfl) L1.out ?_) | (refine wq_mload (by kernel_rfl) _ (by rfl) (by rfl) L2.out ?_) | (refine wq_take (v := ?_) (by kernel_rfl) (by intro w hSw; have hXD := XD.out w hSw; go_simp; first | done | with_reducible rfl) ?_))
       simp only [zz]
       refine wq_td ?_
       simp only [zz]
       (first | (refine wq_mload (by kernel_rfl) _ (by rfl) (by rfl) L1.out ?_) | (refine wq_mload (by kernel_rfl) _ (by rfl) (by rfl) L2.out ?_) | (refine wq_take (v := ?_) (by kernel_rfl) (by intro w hSw; have hXD := XD.out w hSw; go_simp; first | done | with_reducible rfl) ?_))
       simp only [zz]
       refine wq_td ?_
       simp only [zz]
       refine wq_td ?_
       simp only [zz]
       (first | (refine wq_mload (by kernel_rfl) _ (by rfl) (by rfl) L1.out ?_) | (refine wq_mload (by kernel_rfl) _ (by rfl) (by rfl) L2.out ?_) | (refine wq_take (v := ?_) (by kernel_rfl) (by intro w hSw; have hXD := XD.out w hSw; go_simp; first | done | with_reducible rfl) ?_))
       simp only [zz]
       refine wq_call (by kernel_rfl) ?hent (fun w hSw => inB_calls hSw (KH.out w hSw)) ?_; (case hent => (intro w hSw; go_simp; done))
       simp only [zz]
       refine wq_td ?_
       simp only [zz]
       refine wq_nil ?_
       intro wq hq
       have HQ1 := Lib.hid hq
       clear hq
       go_wp2_with fail
       have XDq := Lib.hid (fun (W : World) (h : InB wq W) => XD.out W (InB.trans HQ1.out h.below))
       have V1q := Lib.hid (fun (W : World) (h : InB wq W) => V1.out W (InB.trans HQ1.out h.below))
       have V2q := Lib.hid (fun (W : World) (h : InB wq W) => V2.out W (InB.trans HQ1.out h.below))
       refine wp_region_below (by assumption) (by kernel_rfl) ?_
       refine wq_td ?_
       simp only [zz]
       refine wq_td ?_
       simp only [zz]
       refine wq_td ?_
       simp only [zz]
       refine wq_td ?_
       simp only [zz]
       refine wq_td ?_
       simp only [zz]
       (first | (refine wq_mload (by kernel_rfl) _ (by rfl) (by rfl) V1q.out ?_) | (refine wq_mload (by kernel_rfl) _ (by rfl) (by rfl) V2q.out ?_) | (refine wq_take (v := ?_) (by kernel_rfl) (by intro w hSw; have hXDq := XDq.out w hSw; go_simp; first | done | with_reducible rfl) ?_))
       simp only [zz]
       refine wq_td ?_
       simp only [zz]
       refine wq_td ?_
       simp only [zz]
       refine wq_td ?_
       simp only [zz]
       (first | (refine wq_mload (by kernel_rfl) _ (by rfl) (by rfl) V1q.out ?_) | (refine wq_mload (by kernel_rfl) _ (by rfl) (by rfl) V2q.out ?_) | (refine wq_take (v := ?_) (by kernel_rfl) (by intro w hSw; have hXDq := XDq.out w hSw; go_simp; first | done | with_reducible rfl) ?_))
       simp only [zz]
       refine wq_td ?_
       simp only [zz]
       (first | (refine wq_mload (by kernel_rfl) _ (by rfl) (by rfl) V1q.out ?_) | (refine wq_mload (by kernel_rfl) _ (by rfl) (by rfl) V2q.out ?_) | (refine wq_take (v := ?_) (by kernel_rfl) (by intro w hSw; have hXDq := XDq.out w hSw; go_simp; first | done | with_reducible rfl) ?_))
       simp only [zz]
       refine wq_td ?_
       simp only [zz]
       refine wq_td ?_
       simp only [zz]
       refine wq_td ?_
       simp only [zz]
       (first | (refine wq_mload (by kernel_rfl) _ (by rfl) (by rfl) V1q.out ?_) | (refine wq_mload (by kernel_rfl) _ (by rfl) (by rfl) V2q.out ?_) | (refine wq_take (v := ?_) (by kernel_rfl) (by intro w hSw; have hXDq := XDq.out w hSw; go_simp; first | done | with_reducible rfl) ?_))
       simp only [zz]
       refine wq_td ?_
       simp only [zz]
       refine wq_td ?_
       simp only [zz]
       refine wq_td ?_
       simp only [zz]
       refine wq_skip (by kernel_rfl) ?_
       simp only [zz]
       refine wq_skip (by kernel_rfl) ?_
       simp only [zz]
       refine wq_skip (by kernel_rfl) ?_
       simp only [zz]
       refine wq_skip (by kernel_rfl) ?_
       simp only [zz]
       refine wq_skip (by kernel_rfl) ?_
       simp only [zz]
       refine wq_skip (by kernel_rfl) ?_
       simp only [zz]
       refine wq_skip (by kernel_rfl) ?_
       simp only [zz]
       refine wq_skip (by kernel_rfl) ?_
       simp only [zz]
       refine wq_skip (by kernel_rfl) ?_
       simp only [zz]
       refine wq_skip (by kernel_rfl) ?_
       simp only [zz]
       refine wq_skip (by kernel_rfl) ?_
       simp only [zz]
       refine wq_skip (by kernel_rfl) ?_
       simp only [zz]
       refine wq_skip (by kernel_rfl) ?_
       simp only [zz]
       refine wq_td ?_
       simp only [zz]
       refine wq_nil ?_
       intro wq hq
       have HQ1 := Lib.hid (InB.trans HQ1.out hq.below)
       clear hq
       have HQ := Lib.hid (hb.out.trans (HQ1.out.below.mono hb.out.size))
       go_wp2_with fail
       exact ⟨⟨m + 1, by omega, by go_num, HQ⟩, by show rs.length - ((m : Int) + 1).toNat < rs.length - (m : Int).toNat; omega⟩
    ·obtain rfl : m = rs.length := by omega
     go_wp2_with fail
     exact ⟨⟨n + 1, by omega, by go_num, hb⟩, by show rs.length - ((n : Int) + 1).toNat < rs.length - (n : Int).toNat; omega⟩
  ·obtain rfl : n = rs.length := by omega
   go_wp2_with fail
   go_loopw [5] (fun i W => ∃ m : Nat, m ≤ k.items.length ∧ i = .int .i64 (m : Int) ∧ Hid (Below W0.heap.size W0 W)) (fun i _ => k.items.length - (intOf i).toNat)
   case atStart => exact ⟨0, Nat.zero_le _, rfl, hb⟩
   case round =>
    clear c0 c1 hb
    obtain ⟨m, hm, rfl, hb⟩ := hrel
    obtain ⟨c0, c1⟩ := XC.out _ hb.out
    by_cases hlt2 : m < k.items.length
    ·obtain ⟨bk, o, cap1, e, -, -, hbk⟩ := (HI.out W0 (Below.refl _ _)).1.block (by omega)
     injection e with e1 e2 e3
     subst e1 e3
     clear e2
     obtain ⟨x, hx⟩ : ∃ x, k.items[m]? = some x := ⟨_, List.getElem?_eq_getElem hlt2⟩
     have hxm := List.mem_of_getElem? hx
     have hx65 := (HI.out W0 (Below.refl _ _)).2 x hxm
     have LX := Lib.hid (fun (W : World) (h : Below wr.heap.size wr W) => ItAt.elem (HI.out W (hb.out.trans (h.mono hb.out.size))).1 hx hx65)
     have XD := Lib.hid (fun (W : World) (h : Below wr.heap.size wr W) => XC.out W (hb.out.trans (h.mono hb.out.size)))
     have PL := Lib.hid (fun (W : World) => ref_vplain W hx65)
     have EN := Lib.hid (fun (W : World) => ref_vends W hx65)
     rw [decide_eq_true (HK.out.its x hxm).1] at PL
     have hel : (((Vec.ends x.v).length : Int) == 0) = false := by
      have := List.length_pos_iff.2 (HK.out.its x hxm).2
      simp only [beq_eq_false_iff_ne]; omega
     have hm0 : (0 : Int) ≤ (m : Int) := by omega
     have hm1 : (m : Int) < (k.items.length : Int) := by omega
     have hm2 : (m : Int) ≤ 99999 := by omega
     clear hxm
     rcases m with _ | m
     ·have hgt : decide ((0 : Int) < 0) = false := rfl
      clear hx
      go_wp2_with fail
      refine wp_region_held_drew (S := (fun w' : World => Below wr.heap.size wr w')) (by kernel_rfl) ((Below.refl _ _).drew) (fun hHeld => ?_)
      refine wpAnyH_td (i := 0) rfl ?_
      simp only [zz]
      refine wpAnyH_tk (i := 1) (v := ?_) rfl (Or.inl ⟨by rfl, (by intro w hSw; obtain ⟨d0, d1⟩ := XD.out _ hSw; go_simp; try with_reducible rfl)⟩) (by assumption) ?_
      simp only [zz]
      refine wpAnyH_td (i := 2) rfl ?_
      simp only [zz]
      refine wpAnyH_td (i := 3) rfl ?_
      simp only [zz]
      refine wpAnyH_td (i := 4) rfl ?_
      simp only [zz]
      refine wpAnyH_tk (i := 5) (v := .agg (vecL x.v).toArray) rfl (Or.inl ⟨by rfl, (by intro w hSw; exact exec_mload (by rfl) (by rfl) ((LX.out _ hSw).v))⟩) (by assumption) ?_
      simp only [zz]
      refine wpAnyH_ready (rs := [6]) (by kernel_rfl) (by simp) ?_
      refine AllReadyH.cons rfl (fun K hK => ?_) AllReadyH.nil
      go_simp
      go_at_call 28
      refine (PL.out _).mono ?_
      rintro e w6 ⟨rfl, hbN⟩
      have hhN := hHeld.trans (hbN.mono hHeld.size)
      clear hbN
      refine hK.out _ _ hhN (fun hHeld => ?_)
      clear hhN
      clear hK K
      refine wpAnyH_td (i := 7) rfl ?_
      simp only [zz]
      refine wpAnyH_td (i := 8) rfl ?_
      simp only [zz]
      refine wpAnyH_td (i := 9) rfl ?_
      simp only [zz]
      refine wpAnyH_tk (i := 10) (v := ?_) rfl (Or.inl ⟨by rfl, (by intro w hSw; obtain ⟨d0, d1⟩ := XD.out _ hSw; go_simp; try with_reducible rfl)⟩) (by assumption) ?_
      simp only [zz]
      refine wpAnyH_td (i := 11) rfl ?_
      simp only [zz]
      refine wpAnyH_td (i := 12) rfl ?_
      simp only [zz]
      refine wpAnyH_td (i := 13) rfl ?_
      simp only [zz]
      refine wpAnyH_tk (i := 14) (v := .agg (vecL x.v).toArray) rfl (Or.inl ⟨by rfl, (by intro w hSw; exact exec_mload (by rfl) (by rfl) ((LX.out _ hSw).v))⟩) (by assumption) ?_
      simp only [zz]
      refine wpAnyH_ready (rs := [15]) (by kernel_rfl) (by simp) ?_
      refine AllReadyH.cons rfl (fun K hK => ?_) AllReadyH.nil
      go_simp
      go_at_call 29
      refine (EN.out _).mono ?_
      rintro e w7 ⟨v7, rfl, h7⟩
      obtain ⟨A7, c7, e7, -⟩ := (h7.rows (fun _ _ => rfl)).parts
      subst e7
      have hhN := hHeld.trans (h7.2.mono hHeld.size)
      clear h7
      refine hK.out _ _ hhN (fun hHeld => ?_)
      clear hhN
      clear hK K
      refine wpAnyH_td (i := 16) rfl ?_
      simp only [zz]
      refine wpAnyH_td (i := 17) rfl ?_
      simp only [zz]
      refine wpAnyH_td (i := 18) rfl ?_
      simp only [zz]
      refine wpAnyH_td (i := 19) rfl ?_
      simp only [zz]
      refine wpAnyH_td (i := 20) rfl ?_
      simp only [zz]
      refine wpAnyH_td (i := 21) rfl ?_
      simp only [zz]
      refine wpAnyH_td (i := 22) rfl ?_
      simp only [zz]
      refine wpAnyH_tk (i := 23) (v := undef) rfl (Or.inr ⟨by rfl, rfl⟩) (by assumption) ?_
      simp only [zz]
      refine wpAnyH_tk (i := 24) (v := undef) rfl (Or.inr ⟨by rfl, rfl⟩) (by assumption) ?_
      simp only [zz]
      refine wpAnyH_tk (i := 25) (v := undef) rfl (Or.inr ⟨by rfl, rfl⟩) (by assumption) ?_
      simp only [zz]
      refine wpAnyH_tk (i := 26) (v := undef) rfl (Or.inr ⟨by rfl, rfl⟩) (by assumption) ?_
      simp only [zz]
      refine wpAnyH_tk (i := 27) (v := undef) rfl (Or.inr ⟨by rfl, rfl⟩) (by assumption) ?_
      simp only [zz]
      refine wpAnyH_tk (i := 28) (v := undef) rfl (Or.inr ⟨by rfl, rfl⟩) (by assumption) ?_
      simp only [zz]
      refine wpAnyH_tk (i := 29) (v := undef) rfl (Or.inr ⟨by rfl, rfl⟩) (by assumption) ?_
      simp only [zz]
      refine wpAnyH_tk (i := 30) (v := undef) rfl (Or.inr ⟨by rfl, rfl⟩) (by assumption) ?_
      simp only [zz]
      refine wpAnyH_tk (i := 31) (v := undef) rfl (Or.inr ⟨by rfl, rfl⟩) (by assumption) ?_
      simp only [zz]
      refine wpAnyH_tk (i := 32) (v := undef) rfl (Or.inr ⟨by rfl, rfl⟩) (by assumption) ?_
      simp only [zz]
      refine wpAnyH_tk (i := 33) (v := undef) rfl (Or.inr ⟨by rfl, rfl⟩) (by assumption) ?_
      simp only [zz]
      refine wpAnyH_tk (i := 34) (v := undef) rfl (Or.inr ⟨by rfl, rfl⟩) (by assumption) ?_
      simp only [zz]
      refine wpAnyH_tk (i := 35) (v := undef) rfl (Or.inr ⟨by rfl, rfl⟩) (by assumption) ?_
      simp only [zz]
      refine wpAnyH_tk (i := 36) (v := undef) rfl (Or.inr ⟨by rfl, rfl⟩) (by assumption) ?_
      simp only [zz]
      refine wpAnyH_tk (i := 37) (v := undef) rfl (Or.inr ⟨by rfl, rfl⟩) (by assumption) ?_
      simp only [zz]
      refine wpAnyH_td (i := 38) rfl ?_
      simp only [zz]
      refine wpAnyH_td (i := 39) rfl ?_
      simp only [zz]
      refine wpAnyH_done (by kernel_rfl) ?_ _
      have HQ := Lib.hid (hb.out.trans (hHeld.mono hb.out.size))
      clear hHeld
      go_wp2_with fail
      exact ⟨⟨1, by omega, by go_num, HQ⟩, by show k.items.length - (1 : Int).toNat < k.items.length - (0 : Int).toNat; omega⟩
     ·obtain ⟨y, hy⟩ : ∃ y, k.items[m]? = some y := ⟨_, List.getElem?_eq_getElem (by omega)⟩
      have hy65 := (HI.out W0 (Below.refl _ _)).2 y (List.mem_of_getElem? hy)
      have LY := Lib.hid (fun (W : World) (h : Below wr.heap.size wr W) => ItAt.elem (HI.out W (hb.out.trans (h.mono hb.out.size))).1 hy hy65)
      have BF := Lib.hid (fun (W : World) => ref_vbefore W y.item x.item)
      simp only [HK.out.up m y x hy hx, decide_true] at BF
      have g0 : (0 : Int) ≤ (m : Int) := by omega
      have g4 : (0 : Int) ≤ (m : Int) + 1 := by omega
      have g5 : IntKind.i64.wrap (m : Int) = (m : Int) := IntWalk.i64_in _ ⟨by omega, by omega⟩
      have g1 : (m : Int) + 1 < (k.items.length : Int) := by omega
      have g2 : (m : Int) < (k.items.length : Int) := by omega
      have g3 : (m : Int) ≤ 99998 := by omega
      clear hx hy hm0 hm1 hm2
      go_wp2_with fail
      refine wp_region_held_drew (S := (fun w' : World => Below wr.heap.size wr w')) (by kernel_rfl) ((Below.refl _ _).drew) (fun hHeld => ?_)
      refine wpAnyH_td (i := 0) rfl ?_
      simp only [zz]
      refine wpAnyH_tk (i := 1) (v := ?_) rfl (Or.inl ⟨by rfl, (by intro w hSw; obtain ⟨d0, d1⟩ := XD.out _ hSw; go_simp; try with_reducible rfl)⟩) (by assumption) ?_
      simp only [zz]
      refine wpAnyH_td (i := 2) rfl ?_
      simp only [zz]
      refine wpAnyH_td (i := 3) rfl ?_
      simp only [zz]
      refine wpAnyH_td (i := 4) rfl ?_
      simp only [zz]
      refine wpAnyH_tk (i := 5) (v := .agg (vecL x.v).toArray) rfl (Or.inl ⟨by rfl, (by intro w hSw; exact exec_mload (by rfl) (by rfl) ((LX.out _ hSw).v))⟩) (by assumption) ?_
      simp only [zz]
      refine wpAnyH_ready (rs := [6]) (by kernel_rfl) (by simp) ?_
      refine AllReadyH.cons rfl (fun K hK => ?_) AllReadyH.nil
      go_simp
      go_at_call 28
      refine (PL.out _).mono ?_
      rintro e w6 ⟨rfl, hbN⟩
      have hhN := hHeld.trans (hbN.mono hHeld.size)
      clear hbN
      refine hK.out _ _ hhN (fun hHeld => ?_)
      clear hhN
      clear hK K
      refine wpAnyH_td (i := 7) rfl ?_
      simp only [zz]
      refine wpAnyH_td (i := 8) rfl ?_
      simp only [zz]
      refine wpAnyH_td (i := 9) rfl ?_
      simp only [zz]
      refine wpAnyH_tk (i := 10) (v := ?_) rfl (Or.inl ⟨by rfl, (by intro w hSw; obtain ⟨d0, d1⟩ := XD.out _ hSw; go_simp; try with_reducible rfl)⟩) (by assumption) ?_
      simp only [zz]
      refine wpAnyH_td (i := 11) rfl ?_
      simp only [zz]
      refine wpAnyH_td (i := 12) rfl ?_
      simp only [zz]
      refine wpAnyH_td (i := 13) rfl ?_
      simp only [zz]
      refine wpAnyH_tk (i := 14) (v := .agg (vecL x.v).toArray) rfl (Or.inl ⟨by rfl, (by intro w hSw; exact exec_mload (by rfl) (by rfl) ((LX.out _ hSw).v))⟩) (by assumption) ?_
      simp only [zz]
      refine wpAnyH_ready (rs := [15]) (by kernel_rfl) (by simp) ?_
      refine AllReadyH.cons rfl (fun K hK => ?_) AllReadyH.nil
      go_simp
      go_at_call 29
      refine (EN.out _).mono ?_
      rintro e w7 ⟨v7, rfl, h7⟩
      obtain ⟨A7, c7, e7, -⟩ := (h7.rows (fun _ _ => rfl)).parts
      subst e7
      have hhN := hHeld.trans (h7.2.mono hHeld.size)
      clear h7
      refine hK.out _ _ hhN (fun hHeld => ?_)
      clear hhN
      clear hK K
      refine wpAnyH_td (i := 16) rfl ?_
      simp only [zz]
      refine wpAnyH_td (i := 17) rfl ?_
      simp only [zz]
      refine wpAnyH_td (i := 18) rfl ?_
      simp only [zz]
      refine wpAnyH_td (i := 19) rfl ?_
      simp only [zz]
      refine wpAnyH_td (i := 20) rfl ?_
      simp only [zz]
      refine wpAnyH_td (i := 21) rfl ?_
      simp only [zz]
      refine wpAnyH_td (i := 22) rfl ?_
      simp only [zz]
      refine wpAnyH_td (i := 23) rfl ?_
      simp only [zz]
      refine wpAnyH_tk (i := 24) (v := ?_) rfl (Or.inl ⟨by rfl, (by intro w hSw; obtain ⟨d0, d1⟩ := XD.out _ hSw; go_simp; try with_reducible rfl)⟩) (by assumption) ?_
      simp only [zz]
      refine wpAnyH_td (i := 25) rfl ?_
      simp only [zz]
      refine wpAnyH_td (i := 26) rfl ?_
      simp only [zz]
      refine wpAnyH_td (i := 27) rfl ?_
      simp only [zz]
      refine wpAnyH_td (i := 28) rfl ?_
      simp only [zz]
      refine wpAnyH_tk (i := 29) (v := ?_) rfl (Or.inl ⟨by rfl, (by intro w hSw; obtain ⟨d0, d1⟩ := XD.out _ hSw; have p0 := (LY.out _ hSw).by_; have p1 := (LY.out _ hSw).n; go_simp; try with_reducible rfl)⟩) (by assumption) ?_
      simp only [zz]
      refine wpAnyH_td (i := 30) rfl ?_
      simp only [zz]
      refine wpAnyH_tk (i := 31) (v := ?_) rfl (Or.inl ⟨by rfl, (by intro w hSw; obtain ⟨d0, d1⟩ := XD.out _ hSw; go_simp; try with_reducible rfl)⟩) (by assumption) ?_
      simp only [zz]
      refine wpAnyH_td (i := 32) rfl ?_
      simp only [zz]
      refine wpAnyH_td (i := 33) rfl ?_
      simp only [zz]
      refine wpAnyH_td (i := 34) rfl ?_
      simp only [zz]
      refine wpAnyH_tk (i := 35) (v := ?_) rfl (Or.inl ⟨by rfl, (by intro w hSw; obtain ⟨d0, d1⟩ := XD.out _ hSw; have p0 := (LX.out _ hSw).by_; have p1 := (LX.out _ hSw).n; go_simp; try with_reducible rfl)⟩) (by assumption) ?_
      simp only [zz]
      refine wpAnyH_ready (rs := [36]) (by kernel_rfl) (by simp) ?_
      refine AllReadyH.cons rfl (fun K hK => ?_) AllReadyH.nil
      go_simp
      go_at_call 30
      refine (BF.out _).mono ?_
      rintro e w8 ⟨rfl, hbN⟩
      have hhN := hHeld.trans (hbN.below.mono hHeld.size)
      refine hK.out _ _ hhN (fun hHeld => ?_)
      clear hhN
      clear hK K
      refine wpAnyH_td (i := 37) rfl ?_
      simp only [zz]
      refine wpAnyH_td (i := 38) rfl ?_
      simp only [zz]
      refine wpAnyH_td (i := 39) rfl ?_
      simp only [zz]
      refine wpAnyH_done (by kernel_rfl) ?_ _
      have HQ := Lib.hid (hb.out.trans (hHeld.mono hb.out.size))
      clear hHeld
      go_wp2_with fail
      exact ⟨⟨m + 1 + 1, by omega, by go_num, HQ⟩, by show k.items.length - ((m + 1 : Nat) + 1 : Int).toNat < k.items.length - ((m + 1 : Nat) : Int).toNat; omega⟩
    ·obtain rfl : m = k.items.length := by omega
     have HE := Lib.hid (HB0.out.trans (hb.out.mono HB0.out.size))
     go_wp2_with fail
     go_ret
     exact ⟨rfl, HE.out⟩
end Go.Proofs.YtkcgmnhjofoeiaaGreat
