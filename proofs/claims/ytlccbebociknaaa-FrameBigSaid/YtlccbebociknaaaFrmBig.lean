/- FrameBig's walk, out of FrameOk. -/
import Derived.Test.YtlccbebociknaaaFrmBack
import Derived.Laws.MakeOwn
import Derived.Laws.OwnMore
namespace Go.Proofs.Ytlccbebociknaaa
open Go.RowKit

theorem byteInfoF : (Try.prog.info? 5).map (fun i => (i.zero, i.size, i.bytes)) = some (some (.int .u8 0), 1, 1) := by kernel_rfl

def zerosF (k : Nat) : List UInt8 := List.replicate k 0

/-- Zeros in a row of their own, and as a text. -/
theorem zeros_made (W : World) (k : Nat) (hk : k ≤ 131072) : ∃ blank : Array Value,
    (Instr.makeSlice 38 (.int .i64 (k : Int)) (.int .i64 (k : Int))).run Try.prog W = .ok (.slice (some ⟨W.heap.size, 0, none⟩) k k) (W.alloc (.cells blank 5)) ∧
    (convert 38 9 (.slice (some ⟨W.heap.size, 0, none⟩) k k)).run Try.prog (W.alloc (.cells blank 5)) = .ok (.string (mk (zerosF k))) (W.alloc (.cells blank 5)) := by
  obtain ⟨i0, hi, hz0, hz1, hz2⟩ := info_parts byteInfoF
  have hm := run_makeSlice (P := Try.prog) W 38 5 i0 (.int .u8 0) Try.underlying38 hi hz0 .i64 .i64 (k : Int) (k : Int) (by omega) (Int.le_refl _) (by rw [hz1]; simp; omega) (by rw [hz2]; omega) (by omega)
  rw [hz1, Nat.mul_one, Int.toNat_natCast] at hm
  refine ⟨_, hm, ?_⟩
  have hb := toList_madeCells_one (.int .u8 0) k
  have hcells : (Value.int .u8 0).cells = #[.int .u8 0] := rfl
  rw [hcells]
  have hr := Row.made W 5 (madeCells #[.int .u8 0] k)
  have hl : (zerosF k).length = k := List.length_replicate
  have := run_convert_bytes_back (P := Try.prog) (W.alloc (.cells (madeCells #[.int .u8 0] k) 5)) 38 9 5 ⟨W.heap.size, 0, none⟩ k (zerosF k) Try.underlying38 Try.underlying5 Try.underlying9 (fun j hj => by
    rw [Go.WideShapes.add_plain, hr.at, Nat.zero_add, ← Array.getElem?_toList, hb]
    simp [zerosF] at hj ⊢
    simp [hj])
  rw [hl] at this
  exact this

theorem Frm.all_same (c : Nat) (t : List UInt8) : (Frm.all (List.replicate c t)).length = c * (t.length + 4 + (Leb.enc t.length).length) := by
  induction c with
  | zero => simp [Frm.all]
  | succ c ih =>
    rw [List.replicate_succ, Frm.all_cons, List.length_append, ih, Frm.one_len, Nat.add_mul, Nat.one_mul]
    omega

set_option maxRecDepth 100000 in
set_option maxHeartbeats 3200000 in
theorem frm_big (H : FrameOk) (n m : Nat) (w : World) :
    Calls Try.prog 6 #[.int .u32 (n : Int), .int .u8 (m : Int)] w fun e w' => e = .returned (.bool true) ∧ Below w.heap.size w w' := by
  obtain ⟨i0, hi, hz0, hz1, hz2⟩ := info_parts strInfo
  obtain ⟨k, hk⟩ : ∃ k : Nat, k = n % 131072 := ⟨_, rfl⟩
  have hk1 : (n : Int) % 131072 = (k : Int) := by omega
  have hk2 : k < 131072 := by omega
  obtain ⟨r, hr⟩ : ∃ r : Nat, r = m % 3 := ⟨_, rfl⟩
  have hr1 : (m : Int) % 3 = (r : Int) := by omega
  have hr2 : r < 3 := by omega
  have hk3 : (0 : Int) ≤ (k : Int) := by omega
  have hk4 : (k : Int) < 131072 := by omega
  obtain ⟨blank, hmk, hcv⟩ := zeros_made w k (by omega)
  have hbel0 := Lib.hid (two_below w (.cells blank 5))
  have hz0len : (zerosF k).length = k := List.length_replicate
  have Hk := Lib.hid hk2
  have Hr := Lib.hid hr2
  clear hk hr hk2 hr2
  generalize hZ : mk (zerosF k) = Z at *
  go_enter Try.func6, Try.ntmps6
  go_wp2_with fail
  clear hk1
  have h0 : TextsOwn w (List.replicate 0 (zerosF k)) (.slice none 0 0) (w.alloc (.cells blank 5)) := (texts_start w).below (two_below w _)
  go_loopw [7, 8] (fun v i wr => ∃ j : Nat, j ≤ r + 1 ∧ i = .int .i64 (j : Int) ∧ TextsOwn w (List.replicate j (zerosF k)) v wr) (fun _ i _ => 4 - (intOf i).toNat)
  case atStart => exact ⟨0, Nat.zero_le _, rfl, h0⟩
  case round =>
    obtain ⟨j, hj, rfl, hown⟩ := hrel
    have hr2 := Hr.out
    clear h0
    by_cases hlt : j ≤ r
    · have hlt1 : (j : Int) ≤ (r : Int) := by omega
      have hb : decide ((j : Int) ≤ (r : Int)) = true := by simp; omega
      have hown1 := hown.1
      have hz := hown.2.size
      have Hown := Lib.hid hown
      have hc1 : ∀ {w1 : World} i u, [Value.string Z][i]? = some u → (w1.alloc (.cells #[.string Z] 9)).cell? ((⟨w1.heap.size, 0, none⟩ : Addr).add i) = some u := by
        intro w1 i u hi
        match i, hi with
        | 0, hi => simp at hi; subst hi; simp [Addr.add]
      have hj3 := Lib.hid (show j ≤ 3 by omega)
      have hrl := Lib.hid (show (List.replicate j (zerosF k)).length = j from List.length_replicate)
      have hsn := Lib.hid (show List.replicate j (zerosF k) ++ [zerosF k] = List.replicate (j + 1) (zerosF k) from (List.replicate_succ').symm)
      clear hown hj hlt hr2 hk3 hk4
      go_wp2_with (at_builtin; refine wpList_append_own _ rfl _ _ 22 rfl w.heap.size 9 i0 (.string ⟨#[]⟩) 1 16 Try.underlying22 hi hz0 hz1 hz2 rfl (by decide) _ _ _ rfl (hown1.alloc _) ⟨wr.heap.size, 0, none⟩ 1 1 [.string Z] rfl rfl hc1 ?c2 ?c3 ?c4 ?c5 ?_)
      case c2 => intro u hu; simp at hu; subst hu; rfl
      case c3 => have := hj3.out; have := hrl.out; unfold maxLen; omega
      case c4 => have := hj3.out; have := hrl.out; omega
      case c5 => simp; omega
      intro v' w2 hown' hgrow' _
      have hnew := texts_more Hown.out (x := zerosF k) (v' := v') (by rw [hZ]; simpa using hown') hgrow'
      rw [hsn.out] at hnew
      clear hown' hgrow' hown1 Hown
      go_wp2
      go_roundw
      case rel => exact ⟨j + 1, by omega, by go_num, hnew⟩
      case measure => have := hj3.out; simp [intOf]; omega
    · obtain rfl : j = r + 1 := by omega
      have hb : ¬ ((r : Int) + 1 ≤ (r : Int)) := by omega
      have hb' : decide ((r : Int) + 1 ≤ (r : Int)) = false := by simp; omega
      have hcells := hown.cells
      have hLl : (List.replicate (r + 1) (zerosF k)).length = r + 1 := List.length_replicate
      have hform : ∃ A cap, u7 = .slice A (r + 1) cap := by
        obtain ⟨A, cap, e, -, -⟩ := hcells
        rw [texts_len, hLl] at e
        exact ⟨A, cap, e⟩
      have hsz := Frm.all_same (r + 1) (zerosF k)
      rw [hz0len] at hsz
      have hmem : ∀ t ∈ List.replicate (r + 1) (zerosF k), t.length ≤ 131072 := fun t ht => by
        rw [List.eq_of_mem_replicate ht, hz0len]; have := Hk.out; omega
      have hle := Leb.enc_len k
      have hlay := fun W => H.lay (w := W) (F := fun _ => True) (v := u7) (l := List.replicate (r + 1) (zerosF k))
      have hsize := fun W => H.size (w := W) (F := fun _ => True) (v := u7) (l := List.replicate (r + 1) (zerosF k))
      have hnum := fun W => ref_number k W (by have := Hk.out; omega)
      have hcT : Cells wr (fun _ => True) u7 (texts (List.replicate (r + 1) (zerosF k))) := hcells.mono (fun _ _ => trivial)
      have hlay2 : ∀ W, Below wr.heap.size wr W → _ := fun W hW => hlay W (hcT.below hW) (by rw [hLl]; omega) (fun t ht => by have := hmem t ht; omega)
      have hsize2 : ∀ W, Below wr.heap.size wr W → _ := fun W hW => hsize W (hcT.below hW) (by rw [hLl]; omega) (fun t ht => by have := hmem t ht; omega)
      generalize (Frm.all (List.replicate (r + 1) (zerosF k))) = L at *
      have hes : (mk (Leb.enc k)).size = (Leb.enc k).length := mk_len _
      have hnum2 : ∀ W, Calls Try.prog 17 #[.int .i64 (k : Int)] W fun e w' => e = .returned (.string (mk (Leb.enc k))) ∧ Below W.heap.size W w' := hnum
      obtain ⟨A, cap, rfl⟩ := hform
      have Hown := Lib.hid hown.2
      have HN := Lib.hid hnum2
      have HA := Lib.hid (fun W => frm_awake H W)
      have hLs : (mk L).size = L.length := mk_len _
      have hr2 := Hr.out
      have hk2 := Hk.out
      rw [← hes] at hsz hle
      have hbound : (mk (Leb.enc k)).size ≤ 9 := hle.2
      have hprod : (r + 1) * (k + 4 + (mk (Leb.enc k)).size) ≤ 3 * (131072 + 4 + 9) := Nat.mul_le_mul (by omega) (by omega)
      have hmul : ((r : Int) + 1) * ((k : Int) + 4 + ((mk (Leb.enc k)).size : Int)) = ((mk L).size : Int) := by
        rw [hLs, hsz]; simp only [Int.natCast_mul, Int.natCast_add, Int.cast_ofNat_Int]
      have hwr : wrap64 (((r : Int) + 1) * ((k : Int) + 4 + ((mk (Leb.enc k)).size : Int))) = ((mk L).size : Int) := by
        rw [hmul]; exact IntWalk.wrap64_in _ ⟨by omega, by omega⟩
      rw [← hLs] at hlay2 hsize2
      clear hmul hes hsz hprod hLs
      clear hown hcells hlay hsize hnum hnum2 hle hmem hcT hLl hz0len hj H
      generalize mk (Leb.enc k) = E at *
      by_cases hbig : (mk L).size ≤ 65536
      · simp only [if_pos hbig] at hlay2 hsize2
        have hg1 : ¬ (65536 < (mk L).size) := by omega
        have hg2 : decide ((65536 : Int) < ((mk L).size : Int)) = false := by simp; omega
        have hg3 : ¬ ((65536 : Int) < ((mk L).size : Int)) := by omega
        have hq : (((mk L).size : Int) == ((mk L).size : Int)) = true := beq_self_eq_true _
        have HL := Lib.hid hlay2
        have HS := Lib.hid hsize2
        clear hlay2 hsize2 hbig
        generalize mk L = T at *
        go_wp2_with fail
        refine (HN.out wr).mono ?_
        rintro e w1 ⟨rfl, h1⟩
        have h1 := Lib.hid h1
        go_wp2_with fail
        rw [hwr]
        refine (HL.out w1 h1.out).mono ?_
        rintro e w2 ⟨rfl, h2⟩
        have h2 := Lib.hid (h1.out.trans (h2.mono h1.out.size))
        go_wp2_with fail
        refine (HA.out w2).mono ?_
        rintro e w3 ⟨rfl, h3⟩
        have h3 := Lib.hid (h2.out.trans (h3.mono h2.out.size))
        go_wp2_with fail
        refine (HS.out w3 h3.out).mono ?_
        rintro e w4 ⟨rfl, h4⟩
        have h4 := Lib.hid (h3.out.trans (h4.mono h3.out.size))
        go_wp2_with fail
        go_ret
        exact ⟨rfl, Hown.out.trans (h4.out.mono Hown.out.size)⟩
      · simp only [if_neg hbig] at hlay2 hsize2
        have hg1 : (65536 < (mk L).size) := by omega
        have hg2 : decide ((65536 : Int) < ((mk L).size : Int)) = true := by simp; omega
        have hg3 : ((65536 : Int) < ((mk L).size : Int)) := by omega
        have he0 : mk [] = ⟨#[]⟩ := rfl
        rw [he0] at hlay2
        have HL := Lib.hid hlay2
        have HS := Lib.hid hsize2
        clear hlay2 hsize2 hbig he0
        generalize mk L = T at *
        go_wp2_with fail
        refine (HN.out wr).mono ?_
        rintro e w1 ⟨rfl, h1⟩
        have h1 := Lib.hid h1
        go_wp2_with fail
        rw [hwr]
        refine (HL.out w1 h1.out).mono ?_
        rintro e w2 ⟨rfl, h2⟩
        have h2 := Lib.hid (h1.out.trans (h2.mono h1.out.size))
        go_wp2_with fail
        refine (HA.out w2).mono ?_
        rintro e w3 ⟨rfl, h3⟩
        have h3 := Lib.hid (h2.out.trans (h3.mono h2.out.size))
        go_wp2_with fail
        refine (HS.out w3 h3.out).mono ?_
        rintro e w4 ⟨rfl, h4⟩
        have h4 := Lib.hid (h3.out.trans (h4.mono h3.out.size))
        go_wp2_with fail
        go_ret
        exact ⟨rfl, Hown.out.trans (h4.out.mono Hown.out.size)⟩
end Go.Proofs.Ytlccbebociknaaa
