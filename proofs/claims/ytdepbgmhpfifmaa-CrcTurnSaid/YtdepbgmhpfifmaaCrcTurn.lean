/- Of texts that differ in one bit alone the sums differ: CrcTurn's walk, out of what the package's functions are to answer (CrcOk). -/
import Derived.Test.YtdepbgmhpfifmaaCrcAwake
import Derived.Deep.RegionHeld
namespace Go.Proofs.Ytdepbgmhpfifmaa
open Go.RowKit

set_option maxRecDepth 100000 in
set_option maxHeartbeats 1600000 in
theorem turn_none (H : CrcOk) (s : ByteArray) (at' bit : Int) (w : World) (h : s.size = 0) :
    Calls Try.prog 5 #[.string s, .int .u16 at', .int .u8 bit] w fun e w' => e = .returned (.bool true) ∧ Below w.heap.size w w' := by
  have hb : ((s.size : Int) == 0) = true := by rw [h]; rfl
  have HH := Lib.hid H
  clear H h
  go_enter Try.func5, Try.ntmps5
  go_wp2_with (go_at_call 6; with_reducible refine (crc_awake HH.out _).mono ?_; rintro e w1 ⟨rfl, hb1⟩)
  go_ret
  exact ⟨rfl, hb1⟩

set_option maxRecDepth 100000 in
set_option maxHeartbeats 1600000 in
theorem turn_long (H : CrcOk) (s : ByteArray) (at' bit : Int) (w : World) (h : 4000 < s.size) :
    Calls Try.prog 5 #[.string s, .int .u16 at', .int .u8 bit] w fun e w' => e = .returned (.bool true) ∧ Below w.heap.size w w' := by
  have hb : ((s.size : Int) == 0) = false := by rw [beq_eq_false_iff_ne]; omega
  have hb2 : decide ((4000 : Int) < (s.size : Int)) = true := by simp; omega
  have HH := Lib.hid H
  clear H h
  go_enter Try.func5, Try.ntmps5
  go_wp2_with (go_at_call 6; with_reducible refine (crc_awake HH.out _).mono ?_; rintro e w1 ⟨rfl, hb1⟩)
  go_ret
  exact ⟨rfl, hb1⟩

theorem four_inj {m n : Nat} (hm : m < 4294967296) (hn : n < 4294967296) (h : fourOf m = fourOf n) : m = n := by
  unfold fourOf at h
  simp only [List.cons.injEq, and_true] at h
  obtain ⟨h1, h2, h3, h4⟩ := h
  have e : ∀ a b : Nat, a < 256 → b < 256 → UInt8.ofNat a = UInt8.ofNat b → a = b := fun a b ha hb hh => by
    rw [← u8_num a ha, ← u8_num b hb, hh]
  have := e _ _ (by omega) (by omega) h1
  have := e _ _ (by omega) (by omega) h2
  have := e _ _ (by omega) (by omega) h3
  have := e _ _ (by omega) (by omega) h4
  omega

theorem xor_set : ∀ (l : List UInt8) (i : Nat) (c m : UInt8), l[i]? = some c → List.zipWith (· ^^^ ·) l (l.set i (c ^^^ m)) = List.replicate i 0 ++ m :: List.replicate (l.length - i - 1) 0
  | [], i, c, m, h => by simp at h
  | x :: l, 0, c, m, h => by
    simp at h
    subst h
    have e : ∀ l : List UInt8, List.zipWith (· ^^^ ·) l l = List.replicate l.length 0 := fun l => by
      induction l with
      | nil => rfl
      | cons y l ih =>
        show (y ^^^ y) :: List.zipWith (· ^^^ ·) l l = _
        rw [ih, UInt8.xor_self]; rfl
    show (x ^^^ (x ^^^ m)) :: List.zipWith (· ^^^ ·) l l = m :: List.replicate ((x :: l).length - 0 - 1) 0
    rw [e l, ← UInt8.xor_assoc, UInt8.xor_self, UInt8.zero_xor]
    simp
  | x :: l, i + 1, c, m, h => by
    have ih := xor_set l i c m (by simpa using h)
    show (x ^^^ x) :: List.zipWith (· ^^^ ·) l (l.set i (c ^^^ m)) = _
    rw [ih, UInt8.xor_self, List.replicate_succ]
    simp

/-- Block B begins with the bytes T. -/
def Bytes (w : World) (B : Nat) (T : List UInt8) : Prop := ∀ j c, T[j]? = some c → w.cell? ⟨B, j, none⟩ = some (.int .u8 (c.toNat : Int))

theorem Bytes.below {w w' : World} {B base : Nat} {T : List UInt8} (h : Bytes w B T) (hb : Below base w w') (hB : B < base) : Bytes w' B T := fun j c hc => (hb.cell (p := ⟨B, j, none⟩) hB).trans (h j c hc)

theorem row_bytes {w : World} {B cap : Nat} {s : ByteArray} {t : TypeId} {fr : Nat × Nat} (h : w.heap[B]? = some (.cells (bytesRow s cap) t fr)) : Bytes w B s.data.toList := fun j c hc => by
  have hj : j < s.data.size := by
    have := (List.getElem?_eq_some_iff.1 hc).1
    simpa using this
  rw [cell_of_row w B j _ t fr h]
  unfold bytesRow
  rw [Array.getElem?_append_left (by simpa using hj), Array.getElem?_map]
  rw [Array.getElem?_toList] at hc
  rw [hc]; rfl

theorem Bytes.stored {w : World} {B i : Nat} {s : List UInt8} {c c' : UInt8} (h : Bytes w B s) (hc : s[i]? = some c) : Bytes (w.setCell ⟨B, i, none⟩ (.int .u8 (c'.toNat : Int))) B (s.set i c') := fun j d hd => by
  by_cases hij : i = j
  · subst hij
    rw [List.getElem?_set_self (List.getElem?_eq_some_iff.1 hc).1] at hd
    cases hd
    exact World.cell?_setCell_same (h := h i c hc) ..
  · rw [List.getElem?_set_ne hij] at hd
    exact (World.cell?_setCell_other (h := by intro e; apply hij; injection e) ..).trans (h j d hd)

theorem Bytes.conv {w : World} {B n cap : Nat} {T : List UInt8} (h : Bytes w B T) (hn : T.length = n) :
    (convert 32 9 (.slice (some ⟨B, 0, none⟩) n cap)).run Try.prog w = .ok (.string ⟨T.toArray⟩) w := by
  subst hn
  refine run_convert_bytes_back (P := Try.prog) w 32 9 5 ⟨B, 0, none⟩ cap T Try.underlying32 Try.underlying5 Try.underlying9 (fun j hj => ?_)
  have hadd : (⟨B, 0, none⟩ : Addr).add j = ⟨B, j, none⟩ := by unfold Addr.add; split <;> simp_all
  rw [hadd]
  exact h j _ (List.getElem?_eq_getElem hj)

set_option maxRecDepth 100000 in
set_option maxHeartbeats 3200000 in
theorem turn_few (H : CrcOk) (s : ByteArray) (n' bit : Nat) (w : World) (h0 : s.size ≠ 0) (h : s.size ≤ 4000) (hn' : n' < 65536) (hbit : bit < 256) :
    Calls Try.prog 5 #[.string s, .int .u16 n', .int .u8 bit] w fun e w' => e = .returned (.bool true) ∧ Below w.heap.size w w' := by
  have hb : ((s.size : Int) == 0) = false := by rw [beq_eq_false_iff_ne]; omega
  have hb2 : decide ((4000 : Int) < (s.size : Int)) = false := by simp; omega
  have hs63 : (s.size : Int) ≤ 4000 := by omega
  have hconv := run_bytes_of_string (P := Try.prog) w 9 32 5 s Try.underlying9 Try.underlying32 Try.underlying5
  generalize grownCap w s.size 0 5 = cap at hconv
  generalize hw1 : w.drew.alloc (.cells (bytesRow s cap) 5 ((bytesRow s cap).size, (bytesRow s cap).size + 1)) = w1 at hconv
  have hi : n' % s.size < s.size := Nat.mod_lt _ (by omega)
  have hi0 : 0 ≤ (n' : Int) % (s.size : Int) := by omega
  have hi1 : (n' : Int) % (s.size : Int) < (s.size : Int) := by omega
  obtain ⟨c, hc⟩ : ∃ c, s.data.toList[n' % s.size]? = some c := ⟨_, List.getElem?_eq_getElem (by rw [← Lib.size_eq]; exact hi)⟩
  have hrow : w1.heap[w.heap.size]? = some (.cells (bytesRow s cap) 5 ((bytesRow s cap).size, (bytesRow s cap).size + 1)) := by rw [← hw1]; exact heap_alloc_new w.drew _
  have hbel : Below w.heap.size w w1 := by rw [← hw1]; exact (Below.refl _ w).drew.alloc (Nat.le_refl _) _
  have hbytes := row_bytes hrow
  have hs0 : 0 < (s.size : Int) := by omega
  have hcell : w1.cell? ⟨w.heap.size, n' % s.size, none⟩ = some (.int .u8 (c.toNat : Int)) := hbytes _ _ hc
  have hbs : s.size ≤ (bytesRow s cap).size := by unfold bytesRow; rw [Array.size_append, Array.size_map]; exact Nat.le_add_right _ _
  have hfree : w1.frozen? ⟨w.heap.size, n' % s.size, none⟩ = false := by
    simp only [World.frozen?, hrow]
    simp; omega
  have hk : bit % 8 < 8 := Nat.mod_lt _ (by decide)
  have hp : 2 ^ (bit % 8) < 256 := Nat.lt_of_lt_of_le (Nat.pow_lt_pow_right (by decide) hk) (by decide)
  have hst : bits .xor .u8 (c.toNat : Int) (2 ^ (bit % 8) % 256) = ((c ^^^ UInt8.ofNat (2 ^ (bit % 8))).toNat : Int) := by
    have e : ((2 : Int) ^ (bit % 8) % 256) = ((2 ^ (bit % 8) : Nat) : Int) := by
      have e0 : ((2 : Int) ^ (bit % 8)) = ((2 ^ (bit % 8) : Nat) : Int) := by simp
      rw [e0]
      exact Int.emod_eq_of_lt (Int.natCast_nonneg _) (by exact_mod_cast hp)
    rw [e, u8_xor_nat _ _ c.toNat_lt hp, UInt8.toNat_xor, u8_num _ hp]
  have hset := xor_set _ _ _ (UInt8.ofNat (2 ^ (bit % 8))) hc
  have hw2 := hbytes.stored (c' := c ^^^ UInt8.ofNat (2 ^ (bit % 8))) hc
  have hl1 : w.heap.size < w1.heap.size := lt_of_block hrow
  have hTl : (s.data.toList.set (n' % s.size) (c ^^^ UInt8.ofNat (2 ^ (bit % 8)))).length = s.size := by rw [List.length_set, ← Lib.size_eq]
  generalize s.data.toList.set (n' % s.size) (c ^^^ UInt8.ofNat (2 ^ (bit % 8))) = T at *
  have hne := Crc.sum_turn s.data.toList T (by rw [hTl, ← Lib.size_eq]) (n' % s.size) (bit % 8) hk hset
  have hne2 : (Crc.sum s.data.toList).toNat ≠ (Crc.sum T).toNat := fun e => hne (BitVec.eq_of_toNat_eq e)
  obtain ⟨D, hD⟩ : ∃ D : ByteArray, D = ⟨T.toArray⟩ := ⟨_, rfl⟩
  have hDl : D.data.toList = T := by rw [hD]
  have hDs : D.size = s.size := by rw [Lib.size_eq, hDl, hTl]
  obtain ⟨F, hF⟩ : ∃ F : ByteArray, F = ⟨(fourOf (Crc.sum s.data.toList).toNat).toArray⟩ := ⟨_, rfl⟩
  have SS : Hid (∀ W, Calls Try.prog 9 #[.string s] W fun e w' => e = .returned (.int .i64 ((Crc.sum s.data.toList).toNat : Int)) ∧ Below W.heap.size W w') := Lib.hid (fun W => H.sum s W (by omega))
  have ST : Hid (∀ W, Calls Try.prog 9 #[.string D] W fun e w' => e = .returned (.int .i64 ((Crc.sum T).toNat : Int)) ∧ Below W.heap.size W w') := Lib.hid (fun W => by rw [← hDl]; exact H.sum D W (by omega))
  have FS : Hid (∀ W, Calls Try.prog 11 #[.string s] W fun e w' => e = .returned (.string F) ∧ Below W.heap.size W w') := Lib.hid (fun W => by rw [hF]; exact H.four s W (by omega))
  have CK : Hid (∀ W, Calls Try.prog 8 #[.string D, .string F] W fun e w' => e = .returned (.int .i64 7) ∧ Below W.heap.size W w') := Lib.hid (fun W => by
    have hch := H.check D F W (by omega)
    unfold checkOf at hch
    rw [if_pos (by rw [hF]; rfl), if_neg (by rw [hF, hDl]; exact fun e => hne2 (four_inj (Crc.sum s.data.toList).isLt (Crc.sum T).isLt e))] at hch
    exact hch)
  have CV : Hid (∀ W, Bytes W w.heap.size T → (convert 32 9 (.slice (some ⟨w.heap.size, 0, none⟩) s.size cap)).run Try.prog W = .ok (.string D) W) := Lib.hid (fun W h => by rw [hD]; exact h.conv hTl)
  generalize (Crc.sum s.data.toList).toNat = p at *
  generalize (Crc.sum T).toNat = q at *
  have hpq : ((p : Int) != (q : Int)) = true := by simp; omega
  have Hw2 := Lib.hid hw2
  have Hbel := Lib.hid hbel
  have HH := Lib.hid H
  have Hst := Lib.hid hst
  clear h0 hw1 hset hw2 hbel hbytes hrow hbs hst hp hk h hc H hne hne2 hD hDl hDs hF hTl
  go_enter Try.func5, Try.ntmps5
  go_wp2_with fail
  rw [Hst.out]
  have hy2 := Hw2.out
  have hb2w : Below w.heap.size w (w1.setCell ⟨w.heap.size, n' % s.size, none⟩ (.int .u8 ((c ^^^ UInt8.ofNat (2 ^ (bit % 8))).toNat : Int))) := Hbel.out.setCell (Nat.le_refl _) _
  have hl2 : w.heap.size < (w1.setCell ⟨w.heap.size, n' % s.size, none⟩ (.int .u8 ((c ^^^ UInt8.ofNat (2 ^ (bit % 8))).toNat : Int))).heap.size := by simpa using hl1
  clear Hw2 Hbel hcell hfree Hst hconv
  generalize w1.setCell ⟨w.heap.size, n' % s.size, none⟩ (.int .u8 ((c ^^^ UInt8.ofNat (2 ^ (bit % 8))).toNat : Int)) = w2 at *
  refine wp_region_held_drew (S := fun w' => Bytes w' w.heap.size T) (by kernel_rfl) hy2 (fun hHeld => ?_)
  refine wpAnyH_ready (rs := [0]) (by kernel_rfl) (by simp) ?_
  refine AllReadyH.cons rfl (fun K hK => ?_) AllReadyH.nil
  go_simp
  go_at_call 6
  refine (crc_awake HH.out _).mono ?_
  rintro e w3 ⟨rfl, hb3d⟩
  have hb3 : Below w2.heap.size w2 w3 := (Below.refl _ w2).drew.trans hb3d
  have hy3 := Bytes.below hy2 hb3 hl2
  have hz3 : w2.heap.size ≤ w3.heap.size := hb3.size
  refine hK.out _ _ hy3 (fun hHeld => ?_)
  clear hK K
  refine wpAnyH_take (i := 1) (v := ?_) rfl (by kernel_rfl) (by kernel_rfl) (by kernel_rfl) (fun _ _ _ h => h) (Or.inl ⟨by rfl, (by intro w hSw; go_simp; try with_reducible rfl)⟩) (by assumption) ?_
  simp only [Act.put, List.getElem_toArray, List.getElem_cons_zero, List.getElem_cons_succ, List.setIfInBounds_toArray, List.set_cons_zero, List.set_cons_succ]
  refine wpAnyH_take (i := 2) (v := ?_) rfl (by kernel_rfl) (by kernel_rfl) (by kernel_rfl) (fun _ _ _ h => h) (Or.inl ⟨by rfl, (by intro w hSw; go_simp; try with_reducible rfl)⟩) (by assumption) ?_
  simp only [Act.put, List.getElem_toArray, List.getElem_cons_zero, List.getElem_cons_succ, List.setIfInBounds_toArray, List.set_cons_zero, List.set_cons_succ]
  refine wpAnyH_take (i := 4) (v := ?_) rfl (by kernel_rfl) (by kernel_rfl) (by kernel_rfl) (fun _ _ _ h => h) (Or.inl ⟨by rfl, (by intro w hSw; go_simp; try with_reducible rfl)⟩) (by assumption) ?_
  simp only [Act.put, List.getElem_toArray, List.getElem_cons_zero, List.getElem_cons_succ, List.setIfInBounds_toArray, List.set_cons_zero, List.set_cons_succ]
  refine wpAnyH_take (i := 5) (v := ?_) rfl (by kernel_rfl) (by kernel_rfl) (by kernel_rfl) (fun _ _ _ h => h) (Or.inl ⟨by rfl, (by intro w hSw; have hcv := CV.out w hSw; go_simp; try with_reducible rfl)⟩) (by assumption) ?_
  simp only [Act.put, List.getElem_toArray, List.getElem_cons_zero, List.getElem_cons_succ, List.setIfInBounds_toArray, List.set_cons_zero, List.set_cons_succ]
  refine wpAnyH_ready (rs := [3]) (by kernel_rfl) (by simp) ?_
  refine AllReadyH.cons rfl (fun K hK => ?_) AllReadyH.nil
  go_simp
  go_at_call 9
  refine (SS.out _).mono ?_
  rintro e w4 ⟨rfl, hb4⟩
  have hy4 := Bytes.below hy3 hb4 (Nat.lt_of_lt_of_le hl2 (by have := hz3; omega))
  have hz4 : w2.heap.size ≤ w4.heap.size := Nat.le_trans hz3 hb4.size
  refine hK.out _ _ hy4 (fun hHeld => ?_)
  clear hK K
  refine wpAnyH_ready (rs := [6]) (by kernel_rfl) (by simp) ?_
  refine AllReadyH.cons rfl (fun K hK => ?_) AllReadyH.nil
  go_simp
  go_at_call 9
  refine (ST.out _).mono ?_
  rintro e w5 ⟨rfl, hb5⟩
  have hy5 := Bytes.below hy4 hb5 (Nat.lt_of_lt_of_le hl2 (by have := hz4; omega))
  have hz5 : w2.heap.size ≤ w5.heap.size := Nat.le_trans hz4 hb5.size
  refine hK.out _ _ hy5 (fun hHeld => ?_)
  clear hK K
  refine wpAnyH_take (i := 7) (v := ?_) rfl (by kernel_rfl) (by kernel_rfl) (by kernel_rfl) (fun _ _ _ h => h) (Or.inl ⟨by rfl, (by intro w hSw; go_simp; try with_reducible rfl)⟩) (by assumption) ?_
  simp only [Act.put, List.getElem_toArray, List.getElem_cons_zero, List.getElem_cons_succ, List.setIfInBounds_toArray, List.set_cons_zero, List.set_cons_succ]
  refine wpAnyH_take (i := 8) (v := ?_) rfl (by kernel_rfl) (by kernel_rfl) (by kernel_rfl) (fun _ _ _ h => h) (Or.inl ⟨by rfl, (by intro w hSw; go_simp; try with_reducible rfl)⟩) (by assumption) ?_
  simp only [Act.put, List.getElem_toArray, List.getElem_cons_zero, List.getElem_cons_succ, List.setIfInBounds_toArray, List.set_cons_zero, List.set_cons_succ]
  refine wpAnyH_take (i := 9) (v := ?_) rfl (by kernel_rfl) (by kernel_rfl) (by kernel_rfl) (fun _ _ _ h => h) (Or.inl ⟨by rfl, (by intro w hSw; go_simp; try with_reducible rfl)⟩) (by assumption) ?_
  simp only [Act.put, List.getElem_toArray, List.getElem_cons_zero, List.getElem_cons_succ, List.setIfInBounds_toArray, List.set_cons_zero, List.set_cons_succ]
  refine wpAnyH_take (i := 10) (v := ?_) rfl (by kernel_rfl) (by kernel_rfl) (by kernel_rfl) (fun _ _ _ h => h) (Or.inl ⟨by rfl, (by intro w hSw; go_simp; try with_reducible rfl)⟩) (by assumption) ?_
  simp only [Act.put, List.getElem_toArray, List.getElem_cons_zero, List.getElem_cons_succ, List.setIfInBounds_toArray, List.set_cons_zero, List.set_cons_succ]
  refine wpAnyH_take (i := 11) (v := ?_) rfl (by kernel_rfl) (by kernel_rfl) (by kernel_rfl) (fun _ _ _ h => h) (Or.inl ⟨by rfl, (by intro w hSw; have hcv := CV.out w hSw; go_simp; try with_reducible rfl)⟩) (by assumption) ?_
  simp only [Act.put, List.getElem_toArray, List.getElem_cons_zero, List.getElem_cons_succ, List.setIfInBounds_toArray, List.set_cons_zero, List.set_cons_succ]
  refine wpAnyH_take (i := 12) (v := ?_) rfl (by kernel_rfl) (by kernel_rfl) (by kernel_rfl) (fun _ _ _ h => h) (Or.inl ⟨by rfl, (by intro w hSw; go_simp; try with_reducible rfl)⟩) (by assumption) ?_
  simp only [Act.put, List.getElem_toArray, List.getElem_cons_zero, List.getElem_cons_succ, List.setIfInBounds_toArray, List.set_cons_zero, List.set_cons_succ]
  refine wpAnyH_ready (rs := [13]) (by kernel_rfl) (by simp) ?_
  refine AllReadyH.cons rfl (fun K hK => ?_) AllReadyH.nil
  go_simp
  go_at_call 11
  refine (FS.out _).mono ?_
  rintro e w6 ⟨rfl, hb6⟩
  have hy6 := Bytes.below hy5 hb6 (Nat.lt_of_lt_of_le hl2 (by have := hz5; omega))
  have hz6 : w2.heap.size ≤ w6.heap.size := Nat.le_trans hz5 hb6.size
  refine hK.out _ _ hy6 (fun hHeld => ?_)
  clear hK K
  refine wpAnyH_ready (rs := [14]) (by kernel_rfl) (by simp) ?_
  refine AllReadyH.cons rfl (fun K hK => ?_) AllReadyH.nil
  go_simp
  go_at_call 8
  refine (CK.out _).mono ?_
  rintro e w7 ⟨rfl, hb7⟩
  have hy7 := Bytes.below hy6 hb7 (Nat.lt_of_lt_of_le hl2 (by have := hz6; omega))
  have hz7 : w2.heap.size ≤ w7.heap.size := Nat.le_trans hz6 hb7.size
  refine hK.out _ _ hy7 (fun hHeld => ?_)
  clear hK K
  refine wpAnyH_take (i := 15) (v := ?_) rfl (by kernel_rfl) (by kernel_rfl) (by kernel_rfl) (fun _ _ _ h => h) (Or.inl ⟨by rfl, (by intro w hSw; go_simp; try with_reducible rfl)⟩) (by assumption) ?_
  simp only [Act.put, List.getElem_toArray, List.getElem_cons_zero, List.getElem_cons_succ, List.setIfInBounds_toArray, List.set_cons_zero, List.set_cons_succ]
  refine wpAnyH_take (i := 16) (v := ?_) rfl (by kernel_rfl) (by kernel_rfl) (by kernel_rfl) (fun _ _ _ h => h) (Or.inl ⟨by rfl, (by intro w hSw; go_simp; try with_reducible rfl)⟩) (by assumption) ?_
  simp only [Act.put, List.getElem_toArray, List.getElem_cons_zero, List.getElem_cons_succ, List.setIfInBounds_toArray, List.set_cons_zero, List.set_cons_succ]
  refine wpAnyH_take (i := 17) (v := ?_) rfl (by kernel_rfl) (by kernel_rfl) (by kernel_rfl) (fun _ _ _ h => h) (Or.inl ⟨by rfl, (by intro w hSw; go_simp; try with_reducible rfl)⟩) (by assumption) ?_
  simp only [Act.put, List.getElem_toArray, List.getElem_cons_zero, List.getElem_cons_succ, List.setIfInBounds_toArray, List.set_cons_zero, List.set_cons_succ]
  refine wpAnyH_done (by kernel_rfl) ?_ _
  go_wp2_with fail
  go_ret
  exact ⟨rfl, ((((hb2w.trans (hb3.mono (Nat.le_of_lt hl2))).trans (hb4.mono (by omega))).trans (hb5.mono (by omega))).trans (hb6.mono (by omega))).trans (hb7.mono (by omega))⟩
end Go.Proofs.Ytdepbgmhpfifmaa
