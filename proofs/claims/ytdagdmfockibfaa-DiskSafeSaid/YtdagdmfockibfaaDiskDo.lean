/- One act on a disk and on the reference's: both are answered alike. -/
import Derived.Test.YtdagdmfockibfaaDiskOk
import Derived.Test.YtdagdmfockibfaaRegion
import Derived.Deep.RegionHeld
namespace Go.Proofs.Ytdagdmfockibfaa
open Go.RowKit Dsk

/-- The disk behind an act. -/
def actOn (d : D) (kind i n : Int) (s : ByteArray) (ks : List Int) : D :=
  if kind = 3 then d else if kind = 4 then d.flush.2 else if kind = 5 then d.arm n else if kind = 6 then d.crash ks else (d.write i s).2

section
variable {At : World → (Nat → Prop) → Value → D → Prop} {W V w : World} {Z Y : Nat → Prop} {v kv : Value} {b : Nat} {d : D} {N : Nat} {kind i n : Int} {s : ByteArray} {ks : List Int}

def boxCells (kind i n : Int) (s : ByteArray) (kv : Value) : Array Value := #[.int .i64 kind, .int .i64 i, .int .i64 n, .string s, kv]

theorem box_cell (w : World) (t : TypeId) (cs : Array Value) (k : Nat) : (w.alloc (.cells cs t)).cell? ⟨w.heap.size, k, none⟩ = cs[k]? := (Row.made w t cs).at k

theorem ref_arm {G : Nat → Prop} (h : RefIn w G b d) (n : Int) : RefIn (w.setCell ⟨b, 2, none⟩ (.int .i64 ((n.toNat : Nat) : Int))) G b (d.arm n) ∧ Kept (fun k => k = b) w (w.setCell ⟨b, 2, none⟩ (.int .i64 ((n.toNat : Nat) : Int))) := by
  obtain ⟨⟨sv, h1, h2⟩, h3, h4⟩ := h
  refine ⟨⟨⟨sv, Row.stored h1 2 _, h2.kept (G := fun k => k = b) ((Kept.refl (fun k => k = b) w).stored (p := ⟨b, 2, none⟩) (Or.inl rfl) _) (fun i hi e => hi.2 e)⟩, h3, fun i hi => by simpa [World.setCell] using h4 i hi⟩, (Kept.refl (fun k => k = b) w).stored (p := ⟨b, 2, none⟩) (Or.inl rfl) _⟩

set_option linter.unusedSimpArgs false in
set_option maxRecDepth 100000 in
set_option maxHeartbeats 1600000 in
theorem do_write (H : DiskOk At) (h : Half At W V Z Y v b d d w) (hf : d.Fine N) (hN : N ≤ 1000) (hi1 : -9223372036854775808 ≤ i) (hi2 : i ≤ 9223372036854775807) (hs : s.size ≤ 9223372036854775807) (kA : Option Addr) (kn kc : Nat)
    (h3 : kind ≠ 3) (h4 : kind ≠ 4) (h5 : kind ≠ 5) (h6 : kind ≠ 6) :
    Calls Try.prog 10 #[v, .pointer (some ⟨b, 0, none⟩), .agg #[.int .i64 kind, .int .i64 i, .int .i64 n, .string s, .slice kA kn kc]] w fun e w' => e = .returned (.bool true) ∧ Half At W V Z Y v b (d.write i s).2 (d.write i s).2 w' := by
  have Hd0 : Hid (Half At W (w.alloc (.cells #[.int .i64 kind, .int .i64 i, .int .i64 n, .string s, .slice kA kn kc] 34)) (fun k => Z k ∨ k = w.heap.size) Y v b d d (w.alloc (.cells #[.int .i64 kind, .int .i64 i, .int .i64 n, .string s, .slice kA kn kc] 34)).drew) := Lib.hid ((h.box H _).below H (below_drew _)).1
  have hb0 : (w.alloc (.cells #[.int .i64 kind, .int .i64 i, .int .i64 n, .string s, .slice kA kn kc] 34)).cell? ⟨w.heap.size, 0, none⟩ = some (.int .i64 kind) := box_cell _ _ _ 0
  have hb1 : (w.alloc (.cells #[.int .i64 kind, .int .i64 i, .int .i64 n, .string s, .slice kA kn kc] 34)).cell? ⟨w.heap.size, 1, none⟩ = some (.int .i64 i) := box_cell _ _ _ 1
  have hb3 : (w.alloc (.cells #[.int .i64 kind, .int .i64 i, .int .i64 n, .string s, .slice kA kn kc] 34)).cell? ⟨w.heap.size, 3, none⟩ = some (.string s) := box_cell _ _ _ 3
  have k3 : (kind == 3) = false := by simpa using h3
  have k4 : (kind == 4) = false := by simpa using h4
  have k5 : (kind == 5) = false := by simpa using h5
  have k6 : (kind == 6) = false := by simpa using h6
  obtain ⟨r1, hr1⟩ : ∃ r1, (d.write i s).1 = r1 := ⟨_, rfl⟩
  obtain ⟨d2, hd2⟩ : ∃ d2, (d.write i s).2 = d2 := ⟨_, rfl⟩
  have Hr1 := Lib.hid hr1
  have Hd2 := Lib.hid hd2
  rw [hd2]
  have hrr : (r1 == r1) = true := beq_self_eq_true _
  have HH := Lib.hid H
  have Hh0 := Lib.hid h
  have Hf := Lib.hid hf
  have HN := Lib.hid hN
  clear h H hf hN h3 h4 h5 h6 hr1 hd2
  go_enter Try.func10, Try.ntmps10
  go_wp2_with fail
  refine wp_region_held_drew (S := fun w' => w'.cell? ⟨w.heap.size, 1, none⟩ = some (.int .i64 i) ∧ w'.cell? ⟨w.heap.size, 3, none⟩ = some (.string s)) (by kernel_rfl) ⟨hb1, hb3⟩ (fun hHeld => ?_)
  refine wpAnyH_take (i := 0) (v := ?_) rfl (by kernel_rfl) (by kernel_rfl) (by kernel_rfl) (fun _ _ _ h => h) (Or.inl ⟨by rfl, (by intro w hSw; go_simp; try with_reducible rfl)⟩) (by assumption) ?_
  simp only [Act.put, List.getElem_toArray, List.getElem_cons_zero, List.getElem_cons_succ, List.setIfInBounds_toArray, List.set_cons_zero, List.set_cons_succ]
  refine wpAnyH_take (i := 1) (v := ?_) rfl (by kernel_rfl) (by kernel_rfl) (by kernel_rfl) (fun _ _ _ h => h) (Or.inl ⟨by rfl, (by intro w hSw; go_simp; try with_reducible rfl)⟩) (by assumption) ?_
  simp only [Act.put, List.getElem_toArray, List.getElem_cons_zero, List.getElem_cons_succ, List.setIfInBounds_toArray, List.set_cons_zero, List.set_cons_succ]
  refine wpAnyH_take (i := 2) (v := ?_) rfl (by kernel_rfl) (by kernel_rfl) (by kernel_rfl) (fun _ _ _ h => h) (Or.inl ⟨by rfl, (by intro w hSw; have h1 := hSw.1; go_simp; try with_reducible rfl)⟩) (by assumption) ?_
  simp only [Act.put, List.getElem_toArray, List.getElem_cons_zero, List.getElem_cons_succ, List.setIfInBounds_toArray, List.set_cons_zero, List.set_cons_succ]
  refine wpAnyH_take (i := 3) (v := ?_) rfl (by kernel_rfl) (by kernel_rfl) (by kernel_rfl) (fun _ _ _ h => h) (Or.inl ⟨by rfl, (by intro w hSw; go_simp; try with_reducible rfl)⟩) (by assumption) ?_
  simp only [Act.put, List.getElem_toArray, List.getElem_cons_zero, List.getElem_cons_succ, List.setIfInBounds_toArray, List.set_cons_zero, List.set_cons_succ]
  refine wpAnyH_take (i := 4) (v := ?_) rfl (by kernel_rfl) (by kernel_rfl) (by kernel_rfl) (fun _ _ _ h => h) (Or.inl ⟨by rfl, (by intro w hSw; have h1 := hSw.2; go_simp; try with_reducible rfl)⟩) (by assumption) ?_
  simp only [Act.put, List.getElem_toArray, List.getElem_cons_zero, List.getElem_cons_succ, List.setIfInBounds_toArray, List.set_cons_zero, List.set_cons_succ]
  refine wpAnyH_take (i := 6) (v := ?_) rfl (by kernel_rfl) (by kernel_rfl) (by kernel_rfl) (fun _ _ _ h => h) (Or.inl ⟨by rfl, (by intro w hSw; go_simp; try with_reducible rfl)⟩) (by assumption) ?_
  simp only [Act.put, List.getElem_toArray, List.getElem_cons_zero, List.getElem_cons_succ, List.setIfInBounds_toArray, List.set_cons_zero, List.set_cons_succ]
  refine wpAnyH_take (i := 7) (v := ?_) rfl (by kernel_rfl) (by kernel_rfl) (by kernel_rfl) (fun _ _ _ h => h) (Or.inl ⟨by rfl, (by intro w hSw; go_simp; try with_reducible rfl)⟩) (by assumption) ?_
  simp only [Act.put, List.getElem_toArray, List.getElem_cons_zero, List.getElem_cons_succ, List.setIfInBounds_toArray, List.set_cons_zero, List.set_cons_succ]
  refine wpAnyH_take (i := 8) (v := ?_) rfl (by kernel_rfl) (by kernel_rfl) (by kernel_rfl) (fun _ _ _ h => h) (Or.inl ⟨by rfl, (by intro w hSw; have h1 := hSw.1; go_simp; try with_reducible rfl)⟩) (by assumption) ?_
  simp only [Act.put, List.getElem_toArray, List.getElem_cons_zero, List.getElem_cons_succ, List.setIfInBounds_toArray, List.set_cons_zero, List.set_cons_succ]
  refine wpAnyH_take (i := 9) (v := ?_) rfl (by kernel_rfl) (by kernel_rfl) (by kernel_rfl) (fun _ _ _ h => h) (Or.inl ⟨by rfl, (by intro w hSw; go_simp; try with_reducible rfl)⟩) (by assumption) ?_
  simp only [Act.put, List.getElem_toArray, List.getElem_cons_zero, List.getElem_cons_succ, List.setIfInBounds_toArray, List.set_cons_zero, List.set_cons_succ]
  refine wpAnyH_take (i := 10) (v := ?_) rfl (by kernel_rfl) (by kernel_rfl) (by kernel_rfl) (fun _ _ _ h => h) (Or.inl ⟨by rfl, (by intro w hSw; have h1 := hSw.2; go_simp; try with_reducible rfl)⟩) (by assumption) ?_
  simp only [Act.put, List.getElem_toArray, List.getElem_cons_zero, List.getElem_cons_succ, List.setIfInBounds_toArray, List.set_cons_zero, List.set_cons_succ]
  refine wpAnyH_ready (rs := [5]) (by kernel_rfl) (by simp) ?_
  refine AllReadyH.cons rfl (fun K hK => ?_) AllReadyH.nil
  go_simp
  go_at_call 22
  refine ((Hd0.out).disk (fun F hF => HH.out.write hF Hf.out HN.out i s hi1 hi2 hs)).mono ?_
  rw [show (d.write i s).1 = r1 from Hr1.out, show (d.write i s).2 = d2 from Hd2.out]
  rintro e w3 ⟨rfl, hh3, hs3⟩
  have hh3 := Lib.hid hh3
  refine hK.out _ _ ⟨(hs3.cell (p := ⟨w.heap.size, 1, none⟩) (Or.inr rfl)).trans hHeld.1, (hs3.cell (p := ⟨w.heap.size, 3, none⟩) (Or.inr rfl)).trans hHeld.2⟩ (fun hHeld => ?_)
  clear hs3
  clear hK K
  refine wpAnyH_ready (rs := [11]) (by kernel_rfl) (by simp) ?_
  refine AllReadyH.cons rfl (fun K hK => ?_) AllReadyH.nil
  go_simp
  go_at_call 27
  refine ((hh3.out).ref HH.out (fun G hG => ref_write hG Hf.out (Nat.le_trans HN.out (by decide)) i s hs)).mono ?_
  rw [show (d.write i s).1 = r1 from Hr1.out, show (d.write i s).2 = d2 from Hd2.out]
  rintro e w4 ⟨rfl, hh4, hs4⟩
  have hh4 := Lib.hid hh4
  refine hK.out _ _ ⟨(hs4.cell (p := ⟨w.heap.size, 1, none⟩) (Or.inr rfl)).trans hHeld.1, (hs4.cell (p := ⟨w.heap.size, 3, none⟩) (Or.inr rfl)).trans hHeld.2⟩ (fun hHeld => ?_)
  clear hs4
  clear hK K
  refine wpAnyH_take (i := 12) (v := ?_) rfl (by kernel_rfl) (by kernel_rfl) (by kernel_rfl) (fun _ _ _ h => h) (Or.inl ⟨by rfl, (by intro w hSw; go_simp; try with_reducible rfl)⟩) (by assumption) ?_
  simp only [Act.put, List.getElem_toArray, List.getElem_cons_zero, List.getElem_cons_succ, List.setIfInBounds_toArray, List.set_cons_zero, List.set_cons_succ]
  refine wpAnyH_take (i := 13) (v := ?_) rfl (by kernel_rfl) (by kernel_rfl) (by kernel_rfl) (fun _ _ _ h => h) (Or.inl ⟨by rfl, (by intro w hSw; go_simp; try with_reducible rfl)⟩) (by assumption) ?_
  simp only [Act.put, List.getElem_toArray, List.getElem_cons_zero, List.getElem_cons_succ, List.setIfInBounds_toArray, List.set_cons_zero, List.set_cons_succ]
  refine wpAnyH_done (by kernel_rfl) ?_ _
  go_wp2_with fail
  go_ret
  exact ⟨rfl, Hh0.out.unbox hh4.out⟩

set_option maxRecDepth 100000 in
set_option maxHeartbeats 1600000 in
theorem do_flush (H : DiskOk At) (h : Half At W V Z Y v b d d w) (hf : d.Fine N) (hN : N ≤ 1000) (kA : Option Addr) (kn kc : Nat) :
    Calls Try.prog 10 #[v, .pointer (some ⟨b, 0, none⟩), .agg #[.int .i64 4, .int .i64 i, .int .i64 n, .string s, .slice kA kn kc]] w fun e w' => e = .returned (.bool true) ∧ Half At W V Z Y v b d.flush.2 d.flush.2 w' := by
  have Hd0 : Hid (Half At W (w.alloc (.cells #[.int .i64 4, .int .i64 i, .int .i64 n, .string s, .slice kA kn kc] 34)) (fun k => Z k ∨ k = w.heap.size) Y v b d d (w.alloc (.cells #[.int .i64 4, .int .i64 i, .int .i64 n, .string s, .slice kA kn kc] 34))) := Lib.hid (h.box H _)
  have hb0 : (w.alloc (.cells #[.int .i64 4, .int .i64 i, .int .i64 n, .string s, .slice kA kn kc] 34)).cell? ⟨w.heap.size, 0, none⟩ = some (.int .i64 4) := box_cell _ _ _ 0
  have hb1 : (w.alloc (.cells #[.int .i64 4, .int .i64 i, .int .i64 n, .string s, .slice kA kn kc] 34)).cell? ⟨w.heap.size, 1, none⟩ = some (.int .i64 i) := box_cell _ _ _ 1
  have hb2 : (w.alloc (.cells #[.int .i64 4, .int .i64 i, .int .i64 n, .string s, .slice kA kn kc] 34)).cell? ⟨w.heap.size, 2, none⟩ = some (.int .i64 n) := box_cell _ _ _ 2
  have hb4 : (w.alloc (.cells #[.int .i64 4, .int .i64 i, .int .i64 n, .string s, .slice kA kn kc] 34)).cell? ⟨w.heap.size, 4, none⟩ = some (.slice kA kn kc) := box_cell _ _ _ 4
  have HH := Lib.hid H
  have Hh0 := Lib.hid h
  have Hf := Lib.hid hf
  have HN := Lib.hid hN
  obtain ⟨r1, hr1⟩ : ∃ r1, d.flush.1 = r1 := ⟨_, rfl⟩
  obtain ⟨d2, hd2⟩ : ∃ d2, d.flush.2 = d2 := ⟨_, rfl⟩
  have c1 := fun F (hF : At (w.alloc (.cells #[.int .i64 4, .int .i64 i, .int .i64 n, .string s, .slice kA kn kc] 34)) F v d) => H.flush hF hf hN
  have c2 := fun W' G (hG : RefIn W' G b d) => ref_flush hG hf (Nat.le_trans hN (by decide))
  rw [hr1, hd2] at c1
  rw [hr1, hd2] at c2
  rw [hd2]
  have C1 := Lib.hid c1
  have C2 := Lib.hid c2
  have hrr : (r1 == r1) = true := beq_self_eq_true _
  clear h H hf hN hr1 hd2 c1 c2 hb1 hb2 hb4
  go_enter Try.func10, Try.ntmps10
  go_wp2_with fail
  refine ((Hd0.out).disk C1.out).mono ?_
  rintro e w3 ⟨rfl, hh3, -⟩
  have hh3 := Lib.hid hh3
  go_wp2_with fail
  refine ((hh3.out).ref HH.out (C2.out w3)).mono ?_
  rintro e w4 ⟨rfl, hh4, -⟩
  have hh4 := Lib.hid hh4
  go_wp2_with fail
  go_ret
  exact ⟨rfl, Hh0.out.unbox hh4.out⟩

set_option maxRecDepth 100000 in
set_option maxHeartbeats 1600000 in
theorem do_arm (H : DiskOk At) (h : Half At W V Z Y v b d d w) (hf : d.Fine N) (hN : N ≤ 1000) (hn1 : -9223372036854775808 ≤ n) (hn2 : n ≤ 9223372036854775807) (kA : Option Addr) (kn kc : Nat) :
    Calls Try.prog 10 #[v, .pointer (some ⟨b, 0, none⟩), .agg #[.int .i64 5, .int .i64 i, .int .i64 n, .string s, .slice kA kn kc]] w fun e w' => e = .returned (.bool true) ∧ Half At W V Z Y v b (d.arm n) (d.arm n) w' := by
  have Hd0 : Hid (Half At W (w.alloc (.cells #[.int .i64 5, .int .i64 i, .int .i64 n, .string s, .slice kA kn kc] 34)) (fun k => Z k ∨ k = w.heap.size) Y v b d d (w.alloc (.cells #[.int .i64 5, .int .i64 i, .int .i64 n, .string s, .slice kA kn kc] 34))) := Lib.hid (h.box H _)
  have hb0 : (w.alloc (.cells #[.int .i64 5, .int .i64 i, .int .i64 n, .string s, .slice kA kn kc] 34)).cell? ⟨w.heap.size, 0, none⟩ = some (.int .i64 5) := box_cell _ _ _ 0
  have hb1 : (w.alloc (.cells #[.int .i64 5, .int .i64 i, .int .i64 n, .string s, .slice kA kn kc] 34)).cell? ⟨w.heap.size, 1, none⟩ = some (.int .i64 i) := box_cell _ _ _ 1
  have hb2 : (w.alloc (.cells #[.int .i64 5, .int .i64 i, .int .i64 n, .string s, .slice kA kn kc] 34)).cell? ⟨w.heap.size, 2, none⟩ = some (.int .i64 n) := box_cell _ _ _ 2
  have hb4 : (w.alloc (.cells #[.int .i64 5, .int .i64 i, .int .i64 n, .string s, .slice kA kn kc] 34)).cell? ⟨w.heap.size, 4, none⟩ = some (.slice kA kn kc) := box_cell _ _ _ 4
  have HH := Lib.hid H
  have Hh0 := Lib.hid h
  have Hf := Lib.hid hf
  have HN := Lib.hid hN
  have hz : (max n 0) = ((n.toNat : Nat) : Int) := by omega
  have hi := fun w => high_any n 0 w
  rw [hz] at hi
  have Hi := Lib.hid hi
  have HZ := Lib.hid hz
  clear h H hf hN hb1 hb4 hz hi
  go_enter Try.func10, Try.ntmps10
  go_wp2_with fail
  refine ((Hd0.out).disk (fun F hF => HH.out.arm hF Hf.out HN.out n hn1 hn2)).mono ?_
  rintro e w3 ⟨rfl, hh3, hs3⟩
  have hb2 : w3.cell? ⟨w.heap.size, 2, none⟩ = some (.int .i64 n) := (hs3.cell (p := ⟨w.heap.size, 2, none⟩) (Or.inr rfl)).trans hb2
  obtain ⟨A, c, c0, c1, c2, c3, f2, -, -⟩ := hh3.refFacts
  have fin := Lib.hid (hh3.turned HH.out (w' := w3.setCell ⟨b, 2, none⟩ (.int .i64 ((n.toNat : Nat) : Int))) (d3 := d.arm n) (fun G hG => ref_arm hG n))
  clear hh3 hs3 c0 c1 c3
  go_wp2_with (go_at_call 26; with_reducible refine (Hi.out _).mono ?_; rintro e w' ⟨rfl, rfl⟩)
  go_ret
  exact ⟨rfl, by rw [HZ.out]; exact Hh0.out.unbox fin.out.1⟩

set_option maxRecDepth 100000 in
set_option maxHeartbeats 1600000 in
theorem do_crash (H : DiskOk At) (h : Half At W V Z Y v b d d w) (hf : d.Fine N) (hN : N ≤ 1000) {kA : Option Addr} {kn kc : Nat} (hk : Cells W (fun i => i < W.heap.size) (.slice kA kn kc) (ks.map (Value.int .i64))) (hI : Ints64 ks) :
    Calls Try.prog 10 #[v, .pointer (some ⟨b, 0, none⟩), .agg #[.int .i64 6, .int .i64 i, .int .i64 n, .string s, .slice kA kn kc]] w fun e w' => e = .returned (.bool true) ∧ Half At W V Z Y v b (d.crash ks) (d.crash ks) w' := by
  have Hd0 : Hid (Half At W (w.alloc (.cells #[.int .i64 6, .int .i64 i, .int .i64 n, .string s, .slice kA kn kc] 34)) (fun k => Z k ∨ k = w.heap.size) Y v b d d (w.alloc (.cells #[.int .i64 6, .int .i64 i, .int .i64 n, .string s, .slice kA kn kc] 34))) := Lib.hid (h.box H _)
  have hb0 : (w.alloc (.cells #[.int .i64 6, .int .i64 i, .int .i64 n, .string s, .slice kA kn kc] 34)).cell? ⟨w.heap.size, 0, none⟩ = some (.int .i64 6) := box_cell _ _ _ 0
  have hb1 : (w.alloc (.cells #[.int .i64 6, .int .i64 i, .int .i64 n, .string s, .slice kA kn kc] 34)).cell? ⟨w.heap.size, 1, none⟩ = some (.int .i64 i) := box_cell _ _ _ 1
  have hb2 : (w.alloc (.cells #[.int .i64 6, .int .i64 i, .int .i64 n, .string s, .slice kA kn kc] 34)).cell? ⟨w.heap.size, 2, none⟩ = some (.int .i64 n) := box_cell _ _ _ 2
  have hb4 : (w.alloc (.cells #[.int .i64 6, .int .i64 i, .int .i64 n, .string s, .slice kA kn kc] 34)).cell? ⟨w.heap.size, 4, none⟩ = some (.slice kA kn kc) := box_cell _ _ _ 4
  have HH := Lib.hid H
  have Hh0 := Lib.hid h
  have Hf := Lib.hid hf
  have HN := Lib.hid hN
  have hcell : ∀ w', Below W.heap.size W w' → Cells w' (fun i => i < W.heap.size) (.slice kA kn kc) (ks.map (Value.int .i64)) := fun w' hb => hk.kept (G := fun i => W.heap.size ≤ i) ⟨hb.os, hb.tape, hb.output, hb.size, fun i _ hn => hb.block i (by omega)⟩ (fun i hi => by omega)
  have HC := Lib.hid hcell
  have HI := Lib.hid hI
  clear h H hf hN hb1 hb2 hk hI hcell
  go_enter Try.func10, Try.ntmps10
  go_wp2_with fail
  refine ((Hd0.out).diskZ (fun F hF hW => HH.out.crash hF Hf.out HN.out (HC.out _ Hd0.out.bel) (fun i hi hfi => by have := hW i hfi; omega) HI.out)).mono ?_
  rintro e w3 ⟨rfl, hh3, hs3⟩
  have hb4 : w3.cell? ⟨w.heap.size, 4, none⟩ = some (.slice kA kn kc) := (hs3.cell (p := ⟨w.heap.size, 4, none⟩) (Or.inr rfl)).trans hb4
  have hh3 := Lib.hid hh3
  clear hs3
  go_wp2_with fail
  refine ((hh3.out).refZ HH.out (fun G hG hW => ref_crashes hG Hf.out (Nat.le_trans HN.out (by decide)) (HC.out _ hh3.out.bel) (fun hi => by have := hW b hG.own; omega) HI.out.1 HI.out.2)).mono ?_
  rintro e w4 ⟨rfl, hh4, -⟩
  have hh4 := Lib.hid hh4
  go_wp2_with fail
  go_ret
  exact ⟨rfl, Hh0.out.unbox hh4.out⟩

set_option maxRecDepth 100000 in
set_option maxHeartbeats 1600000 in
theorem do_read (H : DiskOk At) (h : Half At W V Z Y v b d d w) (hf : d.Fine N) (hN : N ≤ 1000) (hi1 : -9223372036854775808 ≤ i) (hi2 : i ≤ 9223372036854775807) (kA : Option Addr) (kn kc : Nat) :
    Calls Try.prog 10 #[v, .pointer (some ⟨b, 0, none⟩), .agg #[.int .i64 3, .int .i64 i, .int .i64 n, .string s, .slice kA kn kc]] w fun e w' => e = .returned (.bool true) ∧ Half At W V Z Y v b d d w' := by
  have Hd0 : Hid (Half At W (w.alloc (.cells #[.int .i64 3, .int .i64 i, .int .i64 n, .string s, .slice kA kn kc] 34)) (fun k => Z k ∨ k = w.heap.size) Y v b d d (w.alloc (.cells #[.int .i64 3, .int .i64 i, .int .i64 n, .string s, .slice kA kn kc] 34))) := Lib.hid (h.box H _)
  have hb0 : (w.alloc (.cells #[.int .i64 3, .int .i64 i, .int .i64 n, .string s, .slice kA kn kc] 34)).cell? ⟨w.heap.size, 0, none⟩ = some (.int .i64 3) := box_cell _ _ _ 0
  have hb1 : (w.alloc (.cells #[.int .i64 3, .int .i64 i, .int .i64 n, .string s, .slice kA kn kc] 34)).cell? ⟨w.heap.size, 1, none⟩ = some (.int .i64 i) := box_cell _ _ _ 1
  have hb2 : (w.alloc (.cells #[.int .i64 3, .int .i64 i, .int .i64 n, .string s, .slice kA kn kc] 34)).cell? ⟨w.heap.size, 2, none⟩ = some (.int .i64 n) := box_cell _ _ _ 2
  have hb4 : (w.alloc (.cells #[.int .i64 3, .int .i64 i, .int .i64 n, .string s, .slice kA kn kc] 34)).cell? ⟨w.heap.size, 4, none⟩ = some (.slice kA kn kc) := box_cell _ _ _ 4
  have HH := Lib.hid H
  have Hh0 := Lib.hid h
  have Hf := Lib.hid hf
  have HN := Lib.hid hN
  obtain ⟨z, hz⟩ : ∃ z, (d.read i).1 = z := ⟨_, rfl⟩
  obtain ⟨r, hr⟩ : ∃ r, (d.read i).2 = r := ⟨_, rfl⟩
  have c1 := fun F (hF : At (w.alloc (.cells #[.int .i64 3, .int .i64 i, .int .i64 n, .string s, .slice kA kn kc] 34)) F v d) => H.read hF hf hN i hi1 hi2
  rw [hz, hr] at c1
  have C1 := Lib.hid c1
  have hl := hf.len
  clear c1
  have c2 := fun W' G (hG : RefIn W' G b d) k (hk : k < d.S.length) => ref_reads hG hf (Nat.le_trans hN (by decide)) hk
  have C2 := Lib.hid c2
  clear c2
  unfold D.read at hz hr
  by_cases hdn : d.down = true
  · rw [if_pos hdn] at hz hr
    subst hz hr
    have Hdn := Lib.hid hdn
    clear h H hf hN hb2 hb4 hdn
    go_enter Try.func10, Try.ntmps10
    go_wp2_with fail
    refine ((Hd0.out).disk C1.out).mono ?_
    rintro e w3 ⟨rfl, hh3, hs3⟩
    obtain ⟨A, c, c0, -, -, c3, -, -, -⟩ := hh3.refFacts
    rw [Hdn.out] at c3
    have hh3 := Lib.hid hh3
    clear hs3 c0
    go_wp2_with fail
    go_ret
    exact ⟨rfl, Hh0.out.unbox hh3.out⟩
  · rw [if_neg hdn] at hz hr
    have hdf : d.down = false := by simpa using hdn
    have Hdn := Lib.hid hdf
    by_cases hrg : i < 0 ∨ (d.S.length : Int) ≤ i
    · rw [if_pos hrg] at hz hr
      subst hz hr
      rcases hrg with hrg | hrg
      · have hneg : decide (i < 0) = true := by simpa using hrg
        clear h H hf hN hb2 hb4 hdn hdf
        go_enter Try.func10, Try.ntmps10
        go_wp2_with fail
        refine ((Hd0.out).disk C1.out).mono ?_
        rintro e w3 ⟨rfl, hh3, hs3⟩
        obtain ⟨A, c, c0, -, -, c3, -, -, -⟩ := hh3.refFacts
        rw [Hdn.out] at c3
        have hb1 : w3.cell? ⟨w.heap.size, 1, none⟩ = some (.int .i64 i) := (hs3.cell (p := ⟨w.heap.size, 1, none⟩) (Or.inr rfl)).trans hb1
        have hh3 := Lib.hid hh3
        clear hs3
        go_wp2_with fail
        go_quiet (fail)
        go_wp2_with fail
        go_ret
        exact ⟨rfl, Hh0.out.unbox ((hh3.out).below HH.out (below_drews w3 nq)).1⟩
      · have hneg : decide (i < 0) = false := by simp; omega
        have hge : decide (i ≥ (d.S.length : Int)) = true := by simp; omega
        have hi0 : (0 : Int) ≤ i := by omega
        clear h H hf hN hb2 hb4 hdn hdf
        go_enter Try.func10, Try.ntmps10
        go_wp2_with fail
        refine ((Hd0.out).disk C1.out).mono ?_
        rintro e w3 ⟨rfl, hh3, hs3⟩
        obtain ⟨A, c, c0, -, -, c3, -, -, -⟩ := hh3.refFacts
        rw [Hdn.out] at c3
        have hb1 : w3.cell? ⟨w.heap.size, 1, none⟩ = some (.int .i64 i) := (hs3.cell (p := ⟨w.heap.size, 1, none⟩) (Or.inr rfl)).trans hb1
        have hh3 := Lib.hid hh3
        clear hs3
        go_wp2_with fail
        go_quiet (fail)
        go_wp2_with fail
        go_ret
        exact ⟨rfl, Hh0.out.unbox ((hh3.out).below HH.out (below_drews w3 nq)).1⟩
    · rw [if_neg hrg] at hz hr
      subst hr
      have hi0 : (0 : Int) ≤ i := by omega
      have hil : i < (d.S.length : Int) := by omega
      obtain ⟨k, rfl⟩ := Int.eq_ofNat_of_zero_le hi0
      have hkl : Hid (k < d.S.length) := Lib.hid (by omega)
      have hneg : decide ((k : Int) < 0) = false := by simp
      have hge : decide ((k : Int) ≥ (d.S.length : Int)) = false := by simp; omega
      have hz' : Hid (last (d.at k) = z) := Lib.hid (by rw [← hz]; rfl)
      have hzz : (z.toList == z.toList) = true := beq_self_eq_true _
      clear h H hf hN hb2 hb4 hdn hdf hz hrg
      go_enter Try.func10, Try.ntmps10
      go_wp2_with fail
      refine ((Hd0.out).disk C1.out).mono ?_
      rintro e w3 ⟨rfl, hh3, hs3⟩
      obtain ⟨A, c, c0, -, -, c3, -, -, -⟩ := hh3.refFacts
      rw [Hdn.out] at c3
      have hb1 : w3.cell? ⟨w.heap.size, 1, none⟩ = some (.int .i64 (k : Int)) := (hs3.cell (p := ⟨w.heap.size, 1, none⟩) (Or.inr rfl)).trans hb1
      have hh3 := Lib.hid hh3
      clear hs3
      go_wp2_with fail
      go_quiet (fail)
      go_wp2_with fail
      have hh4 := Lib.hid ((hh3.out).below HH.out (below_drews w3 nq)).1
      obtain ⟨⟨F', G', -, m2, -⟩, -, -⟩ := hh4.out
      refine (C2.out _ G' m2 k hkl.out).mono ?_
      rintro e w4 ⟨rfl, hn4⟩
      have hh5 : Hid (Half At W (w.alloc (.cells #[.int .i64 3, .int .i64 (k : Int), .int .i64 n, .string s, .slice kA kn kc] 34)) (fun k => Z k ∨ k = w.heap.size) Y v b d d w4) := Lib.hid (by
        obtain ⟨n4, rfl⟩ := hn4
        exact ((hh4.out).below HH.out (below_drews _ n4)).1)
      rw [hz'.out]
      clear hn4 m2
      go_wp2_with fail
      go_ret
      exact ⟨rfl, Hh0.out.unbox hh5.out⟩


/-- An act that came in. -/
structure Ac where
  kind : Int
  i : Int
  n : Int
  s : ByteArray
  kA : Option Addr
  kn : Nat
  kc : Nat
  ks : List Int

def Ac.cells (a : Ac) : Array Value := #[.int .i64 a.kind, .int .i64 a.i, .int .i64 a.n, .string a.s, .slice a.kA a.kn a.kc]
def Ac.act (a : Ac) (d : D) : D := actOn d a.kind a.i a.n a.s a.ks

structure Ac.Ok (W : World) (a : Ac) : Prop where
  keep : Cells W (fun i => i < W.heap.size) (.slice a.kA a.kn a.kc) (a.ks.map (Value.int .i64))
  ints : Ints64 a.ks
  i1 : -9223372036854775808 ≤ a.i
  i2 : a.i ≤ 9223372036854775807
  n1 : -9223372036854775808 ≤ a.n
  n2 : a.n ≤ 9223372036854775807
  size : a.s.size ≤ 9223372036854775807

theorem do_any {a : Ac} (H : DiskOk At) (h : Half At W V Z Y v b d d w) (hf : d.Fine N) (hN : N ≤ 1000) (ha : a.Ok W) :
    Calls Try.prog 10 #[v, .pointer (some ⟨b, 0, none⟩), .agg a.cells] w fun e w' => e = .returned (.bool true) ∧ Half At W V Z Y v b (a.act d) (a.act d) w' := by
  obtain ⟨kind, i, n, s, kA, kn, kc, ks⟩ := a
  obtain ⟨h1, h2, h3, h4, h5, h6, h7⟩ := ha
  show Calls _ _ _ _ (fun e w' => e = .returned (.bool true) ∧ Half At W V Z Y v b (actOn d kind i n s ks) (actOn d kind i n s ks) w')
  unfold actOn
  by_cases e3 : kind = 3
  · subst e3
    exact do_read H h hf hN h3 h4 kA kn kc
  · rw [if_neg e3]
    by_cases e4 : kind = 4
    · subst e4
      exact do_flush H h hf hN kA kn kc
    · rw [if_neg e4]
      by_cases e5 : kind = 5
      · subst e5
        exact do_arm H h hf hN h5 h6 kA kn kc
      · rw [if_neg e5]
        by_cases e6 : kind = 6
        · subst e6
          exact do_crash H h hf hN h1 h2
        · rw [if_neg e6]
          exact do_write H h hf hN h3 h4 h7 kA kn kc e3 e4 e5 e6
end
end Go.Proofs.Ytdagdmfockibfaa
