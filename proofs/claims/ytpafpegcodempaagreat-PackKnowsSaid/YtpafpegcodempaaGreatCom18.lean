import Derived.Test.YtpafpegcodempaaGreatCom17
import Derived.Test.YtpafpegcodempaaGreatCom6
import Derived.Test.YtpafpegcodempaaGreatCom8
import Derived.Lib.OthersKept
import Derived.WalkMore
import Derived.BigQuiet
set_option maxRecDepth 100000
set_option linter.all false
set_option maxHeartbeats 12800000
namespace Go.Proofs.YtpafpegcodempaaGreat
open Go.RowKit
theorem rune_cases (s : ByteArray) (k : Nat) (h : k < s.size) {c : UInt8} (hc : s.data.toList[k]? = some c) : ∃ r wd : Nat, (Utf8.decode s k).1 = r ∧ (Utf8.decode s k).2 = wd ∧ r ≤ 2147483647 ∧ 1 ≤ wd ∧ (r < 128 → r = c.toNat ∧ wd = 1) ∧ (128 ≤ r → 128 ≤ c.toNat) := by
 have hc' : s[k]'h = c := by
  rw [List.getElem?_eq_getElem (by rw [← Lib.size_eq]; exact h), Array.getElem_toList] at hc
  injection hc
 refine ⟨_, _, rfl, rfl, decode_le s k, ?_, ?_, ?_⟩
 all_goals
  by_cases ha : (s[k]'h).toNat < 128
  ·rw [decode_ascii s k h ha, hc']
   rw [hc'] at ha
   first | omega | (intro; exact ⟨rfl, rfl⟩) | (intro hh; simp only at hh; omega)
  ·have := decode_high s k h (by omega)
   rw [hc'] at ha
   omega
theorem good_cases (n : Nat) : n = 46 ∨ (97 ≤ n ∧ n ≤ 122) ∨ (48 ≤ n ∧ n ≤ 57) ∨ n = 45 ∨ n = 95 ∨ n < 45 ∨ n = 47 ∨ (57 < n ∧ n < 95) ∨ n = 96 ∨ 122 < n := by omega
theorem pth_isname (s : List UInt8) (w : World) (hs : s.length ≤ 100000) :
    Calls Tryz.prog 430 #[.string (mk s)] w fun e w' => e = .returned (.bool (decide (Pth.Name s))) ∧ Below w.heap.size w w' := by
  have ls : (mk s).size = s.length := mk_len s
  have hS : ((mk s).size : Int) ≤ 100000 := by rw [ls]; omega
  by_cases h12 : s.length ≤ 12
  · have g1 : decide ((12 : Int) < ((mk s).size : Int)) = false := by rw [ls]; exact decide_eq_false (by omega)
    have Ls := Lib.hid ls
    clear ls
    generalize hxs : mk s = xs at *
    have Hxs := Lib.hid hxs
    go_enter Tryz.func430, Tryz.ntmps430
    go_wp2_with fail
    go_step3
    go_wp2_with fail
    go_step3
    go_wp2_with fail
    go_loopw [3, 4] (fun g d wr => ∃ k : Nat, k ≤ s.length ∧ g = .int .i64 (k : Int) ∧ d = .int .i64 (Pth.dots (s.take k) : Int) ∧ (∀ c ∈ s.take k, Pth.okChar c = true) ∧ wr.heap[w.heap.size]? = some (.stringIter xs k) ∧ Below w.heap.size w wr) (fun _ _ wr => s.length - wr.iterPos w.heap.size)
    case atStart => exact ⟨0, Nat.zero_le _, rfl, rfl, by simp, by have := World.iter_heap w xs 0; simpa using this, by first | exact (Below.refl _ w).alloc (Nat.le_refl _) _ | simpa using (Below.refl _ w).alloc (Nat.le_refl _) (.stringIter xs 0)⟩
    case round =>
      obtain ⟨k, hk, rfl, rfl, hall, hit, hbel⟩ := hrel
      have hk0 : (0 : Int) ≤ (k : Int) := by omega
      have hdk : Pth.dots (s.take k) ≤ k := by
        have := List.countP_le_length (p := fun c : UInt8 => c.toNat == 46) (l := s.take k)
        rw [List.length_take] at this
        unfold Pth.dots; omega
      have Hall := Lib.hid hall
      have Hbel := Lib.hid hbel
      clear hall hbel
      by_cases hlt : k < s.length
      · have hlx : k < xs.size := by have := Ls.out; omega
        obtain ⟨c, hc, ic⟩ := idx xs k hlx
        clear ic
        obtain ⟨r, wd, e1, e2, hr, hw1, hlow, hhigh⟩ := rune_cases xs k hlx hc
        have hnx : ∀ ty, (Instr.next (.pointer (some ⟨w.heap.size, 0, none⟩)) true ty).run Tryz.prog wr = .ok (.tuple #[.bool true, .int .i64 k, .int .i32 (r : Int)]) (wr.iterAt w.heap.size xs (k + wd)) := fun ty => by
          rw [Lib.run_next_any_at wr w.heap.size xs k ty hit hlx, e1, e2]
        have hit2 := Lib.hid (Lib.iterAt_heap wr w.heap.size xs k (k + wd) hit)
        have hbel2 := Lib.hid (Lib.below_iterAt Hbel.out (k := w.heap.size) (Nat.le_refl _) xs (k + wd))
        have hsc : s[k]? = some c := by rw [← hc, ← Hxs.out, mk_data]
        obtain ⟨hl, he⟩ := List.getElem?_eq_some_iff.1 hsc
        have htk : s.take (k + 1) = s.take k ++ [c] := by rw [List.take_succ_eq_append_getElem hl, he]
        have hdn : Hid (Pth.dots (s.take (k + 1)) = Pth.dots (s.take k) + (if c.toNat = 46 then 1 else 0)) := Lib.hid (by
          rw [htk]
          unfold Pth.dots
          rw [List.countP_append, List.countP_singleton]
          by_cases h : c.toNat = 46
          · rw [if_pos h, h]; rfl
          · rw [if_neg h, if_neg (by simpa using h)])
        have hgood : Hid (Pth.okChar c = true → ∀ x ∈ s.take (k + 1), Pth.okChar x = true) := Lib.hid (fun h x hx => by
          rw [htk, List.mem_append] at hx
          rcases hx with hx | hx
          · exact Hall.out x hx
          · rw [List.mem_singleton.1 hx]; exact h)
        have hbad : Hid (Pth.okChar c = false → decide (Pth.Name s) = false) := Lib.hid (fun h => decide_eq_false (fun m => by
          have := m.1 c (List.mem_of_getElem? hsc)
          rw [h] at this; cases this))
        have hok : Hid (Pth.okChar c = ((decide (97 ≤ c.toNat) && decide (c.toNat ≤ 122)) || (decide (48 ≤ c.toNat) && decide (c.toNat ≤ 57)) || c.toNat == 45 || c.toNat == 95 || c.toNat == 46)) := Lib.hid rfl
        have hc256 := c.toNat_lt
        have hd9 : ((Pth.dots (s.take k) : Nat) : Int) ≤ 100000 := by omega
        have hpos : wr.iterPos w.heap.size = k := by simp [World.iterPos, hit]
        have hpos2 : Hid ((wr.iterAt w.heap.size xs (k + wd)).iterPos w.heap.size = k + wd) := Lib.hid (by have := hit2.out; simp [World.iterPos, this])
        have Hpos := Lib.hid hpos
        have hge : ((k : Int) == (xs.size : Int)) = false := by rw [beq_eq_false_iff_ne]; omega
        have hkx : (k : Int) ≤ 100000 := by omega
        clear hc hsc htk he hl hdk e1 e2 hit hpos
        generalize wr.iterAt w.heap.size xs (k + wd) = wi at *
        generalize c.toNat = cn at *
        generalize Pth.dots (s.take k) = dk at *
        rcases good_cases r with h | h | h | h | h | h | h | h | h | h
        all_goals
          first | (have e46 : ((r : Int) == 46) = true := by rw [beq_iff_eq]; omega) | (have e46 : ((r : Int) == 46) = false := by rw [beq_eq_false_iff_ne]; omega)
          first | (have d97 : decide ((97 : Int) ≤ (r : Int)) = true := decide_eq_true (by omega)) | (have d97 : decide ((97 : Int) ≤ (r : Int)) = false := decide_eq_false (by omega))
          first | (have d122 : decide ((r : Int) ≤ 122) = true := decide_eq_true (by omega)) | (have d122 : decide ((r : Int) ≤ 122) = false := decide_eq_false (by omega))
          first | (have d48 : decide ((48 : Int) ≤ (r : Int)) = true := decide_eq_true (by omega)) | (have d48 : decide ((48 : Int) ≤ (r : Int)) = false := decide_eq_false (by omega))
          first | (have d57 : decide ((r : Int) ≤ 57) = true := decide_eq_true (by omega)) | (have d57 : decide ((r : Int) ≤ 57) = false := decide_eq_false (by omega))
          first | (have e45 : ((r : Int) == 45) = true := by rw [beq_iff_eq]; omega) | (have e45 : ((r : Int) == 45) = false := by rw [beq_eq_false_iff_ne]; omega)
          first | (have e95 : ((r : Int) == 95) = true := by rw [beq_iff_eq]; omega) | (have e95 : ((r : Int) == 95) = false := by rw [beq_eq_false_iff_ne]; omega)
          first
            | (have hT : Hid (Pth.okChar c = true ∧ wd = 1 ∧ r = cn) := Lib.hid (by
                 have := hlow (by omega)
                 refine ⟨?_, this.2, this.1⟩
                 rw [hok.out]; simp; omega))
            | (have hF : Hid (Pth.okChar c = false) := Lib.hid (by
                 rw [hok.out]
                 by_cases h8 : r < 128
                 · have := hlow h8; simp; omega
                 · have := hhigh (by omega); simp; omega))
          have HH := Lib.hid h
          have Hr := Lib.hid hr
          clear h hlow hhigh hr hw1
          go_wp2_with fail
          first
            | (try rw [Exit.noGoto_ret]
               go_ret
               exact ⟨by rw [hbad.out hF.out]; rfl, hbel2.out⟩)
            | (refine ⟨⟨k + 1, by omega, rfl, ?_, hgood.out hT.out.1, by have := hit2.out; rw [hT.out.2.1] at this; exact this, hbel2.out⟩, ?_⟩
               · rw [hdn.out]
                 first
                   | (rw [if_pos (by have := HH.out; have := hT.out; omega)]; rfl)
                   | (rw [if_neg (by have := HH.out; have := hT.out; omega)]; rfl)
               · rw [hpos2.out, Hpos.out, hT.out.2.1]; omega)
      · have hks : s.length = k := by omega
        have hnx : ∀ ty, (Instr.next (.pointer (some ⟨w.heap.size, 0, none⟩)) true ty).run Tryz.prog wr = .ok (.tuple #[.bool false]) wr := fun ty => Lib.run_next_end_at wr w.heap.size xs k ty hit (by have := Ls.out; omega)
        have htk : s.take k = s := by rw [← hks]; exact List.take_length
        rw [htk] at Hall hdk
        have hge : ((k : Int) == (xs.size : Int)) = true := by rw [beq_iff_eq]; have := Ls.out; omega
        have hfin : Hid (decide (Pth.Name s) = decide (((Pth.dots s : Nat) : Int) < (k : Int))) := Lib.hid (by
          rw [decide_eq_decide]
          unfold Pth.Name
          constructor
          · rintro ⟨-, -, -, h⟩; omega
          · intro h; exact ⟨Hall.out, by omega, h12, by omega⟩)
        rw [htk]
        clear hit hks htk hlt hdk hk
        generalize ((Pth.dots s : Nat) : Int) = dk at *
        cases hd : decide (dk < (k : Int))
        all_goals
          rw [hd] at hfin
          go_wp2_with fail
          try rw [Exit.noGoto_ret]
          go_ret
          exact ⟨by rw [hfin.out]; rfl, Hbel.out⟩
  · have g1 : decide ((12 : Int) < ((mk s).size : Int)) = true := by rw [ls]; exact decide_eq_true (by omega)
    have hx : Hid (decide (Pth.Name s) = false) := Lib.hid (decide_eq_false (fun h => h12 h.2.2.1))
    clear h12 ls
    generalize mk s = xs at *
    go_enter Tryz.func430, Tryz.ntmps430
    go_wp2_with fail
    go_step3
    go_wp2_with fail
    try rw [Exit.noGoto_ret]
    go_ret
    exact ⟨by rw [hx.out]; rfl, Below.refl _ _⟩
open Go.RowKit
def mayF (c1 c2 : Nat) : Value := .func (.func 429) #[] #[.pointer (some ⟨c1, 0, none⟩), .pointer (some ⟨c2, 0, none⟩)]
theorem pth_namer (w : World) :
  Calls Tryz.prog 400 #[] w fun e w' => e = .returned (mayF w.heap.size (w.heap.size + 1)) ∧ w' = (w.alloc (.cells #[.int .i64 6] 3)).alloc (.cells #[.int .i64 41] 3) := by
 unfold mayF
 go_enter Tryz.func400, Tryz.ntmps400
 go_wp2_with fail
 go_ret
 exact ⟨rfl, rfl⟩
theorem next_dec (d : List (List UInt8)) (t : List UInt8) : decide (Pth.Next d t) = (decide (Pth.Name t) && decide ((0 : Int) ≤ (6 - (d.length : Int)) - 1) && decide ((0 : Int) ≤ (41 - (Pth.lens d : Int)) - ((t.length : Int) + 1))) := by
 rw [Bool.eq_iff_iff]
 simp only [Bool.and_eq_true, decide_eq_true_eq, and_assoc]
 exact Iff.rfl
def cnt (d : List (List UInt8)) : Value := .int .i64 (6 - (d.length : Int))
def room (d : List (List UInt8)) : Value := .int .i64 (41 - (Pth.lens d : Int))
theorem pth_may {w : World} {c1 c2 : Nat} {d : List (List UInt8)} (t : List UInt8) (r1 : Row w c1 3 #[cnt d]) (r2 : Row w c2 3 #[room d]) (hne : c1 ≠ c2) (hd : Pth.Fit d) (ht : t.length ≤ 100000) :
  Calls Tryz.prog 429 #[.string (mk t), .pointer (some ⟨c1, 0, none⟩), .pointer (some ⟨c2, 0, none⟩)] w fun e w' =>
   e = .returned (.bool (decide (Pth.Next d t))) ∧ (Pth.Next d t → Row w' c1 3 #[cnt (d ++ [t])] ∧ Row w' c2 3 #[room (d ++ [t])]) ∧ Kept (fun i => i = c1 ∨ i = c2) w w' := by
 have HN := Lib.hid (fun W => pth_isname t W ht)
 have ht63 : ((mk t).size : Int) ≤ 100000 := by rw [mk_len]; omega
 have hls : ((mk t).size : Int) = (t.length : Int) := by rw [mk_len]
 have hnd := next_dec d t
 by_cases hn : Pth.Name t
 ·rw [decide_eq_true hn] at hnd HN
  have hd6 : (d.length : Int) ≤ 6 := by have := hd.2.1; omega
  have hd0 : (0 : Int) ≤ (d.length : Int) := by omega
  have hr41 : (Pth.lens d : Int) ≤ 41 := by have := hd.2.2; omega
  have hr0 : (0 : Int) ≤ (Pth.lens d : Int) := by omega
  have e1 : cnt (d ++ [t]) = .int .i64 (6 - (d.length : Int) - 1) := by unfold cnt; rw [List.length_append, List.length_singleton]; congr 1; omega
  have e2 : room (d ++ [t]) = .int .i64 (41 - (Pth.lens d : Int) - ((t.length : Int) + 1)) := by unfold room; rw [Pth.lens_append]; simp only [Pth.lens]; congr 1; omega
  rw [e1, e2]
  have r1' := r1
  have r2' := r2
  unfold cnt at r1'
  unfold room at r2'
  have q1 : w.cell? ⟨c1, 0, none⟩ = some (.int .i64 (6 - (d.length : Int))) := r1'.at 0
  have q2 : w.cell? ⟨c2, 0, none⟩ = some (.int .i64 (41 - (Pth.lens d : Int))) := r2'.at 0
  have l1 := r1.inHeap
  have l2 := r2.inHeap
  have R1 := Lib.hid r1'
  have R2 := Lib.hid r2'
  clear e1 e2 hd hn r1 r2 r1' r2'
  have hl0 : (0 : Int) ≤ (t.length : Int) := by omega
  have hl9 : (t.length : Int) ≤ 100000 := by omega
  rw [hls] at ht63
  have Hnd := Lib.hid hnd
  have Hne := Lib.hid hne
  clear hnd
  generalize hx : mk t = x at *
  generalize (d.length : Int) = n at *
  generalize (Pth.lens d : Int) = r at *
  generalize (t.length : Int) = tl at *
  generalize decide (Pth.Next d t) = R at *
  go_enter Tryz.func429, Tryz.ntmps429
  go_wp2_with fail
  refine (HN.out _).mono ?_
  rintro e w1 ⟨rfl, hb1⟩
  have s1 := (R1.out.below hb1 l1)
  have s2 := (R2.out.below hb1 l2)
  have p1 : w1.cell? ⟨c1, 0, none⟩ = some (.int .i64 (6 - n)) := s1.at 0
  have f1 := s1.free 0
  have t1 : Row (w1.setCell ⟨c1, 0, none⟩ (.int .i64 (6 - n - 1))) c1 3 #[.int .i64 (6 - n - 1)] := by simpa using s1.stored 0 (.int .i64 (6 - n - 1))
  have t2 := s2.storedElsewhere (p := ⟨c1, 0, none⟩) (by exact Hne.out) (.int .i64 (6 - n - 1))
  have p2 : (w1.setCell ⟨c1, 0, none⟩ (.int .i64 (6 - n - 1))).cell? ⟨c2, 0, none⟩ = some (.int .i64 (41 - r)) := t2.at 0
  have f2 := t2.free 0
  have K1 : Kept (fun i => i = c1 ∨ i = c2) w (w1.setCell ⟨c1, 0, none⟩ (.int .i64 (6 - n - 1))) := (Kept.ofBelow hb1 _).stored (Or.inl (Or.inl rfl)) _
  generalize hw2 : w1.setCell ⟨c1, 0, none⟩ (.int .i64 (6 - n - 1)) = w2 at *
  have u1 := t1.storedElsewhere (p := ⟨c2, 0, none⟩) (by exact fun e => Hne.out e.symm) (.int .i64 (41 - r - (tl + 1)))
  have u2 : Row (w2.setCell ⟨c2, 0, none⟩ (.int .i64 (41 - r - (tl + 1)))) c2 3 #[.int .i64 (41 - r - (tl + 1))] := by simpa using t2.stored 0 (.int .i64 (41 - r - (tl + 1)))
  have K2 : Kept (fun i => i = c1 ∨ i = c2) w (w2.setCell ⟨c2, 0, none⟩ (.int .i64 (41 - r - (tl + 1)))) := K1.stored (Or.inl (Or.inr rfl)) _
  have p3 : (w2.setCell ⟨c2, 0, none⟩ (.int .i64 (41 - r - (tl + 1)))).cell? ⟨c1, 0, none⟩ = some (.int .i64 (6 - n - 1)) := u1.at 0
  have p4 : (w2.setCell ⟨c2, 0, none⟩ (.int .i64 (41 - r - (tl + 1)))).cell? ⟨c2, 0, none⟩ = some (.int .i64 (41 - r - (tl + 1))) := u2.at 0
  generalize hw3 : w2.setCell ⟨c2, 0, none⟩ (.int .i64 (41 - r - (tl + 1))) = w3 at *
  have U1 := Lib.hid u1
  have U2 := Lib.hid u2
  have HK2 := Lib.hid K2
  clear u1 u2 K1 K2 t1 t2 s1 s2
  have gA : decide ((0 : Int) ≤ 6 - n - 1) = decide ((1 : Int) ≤ 6 - n) := by rw [decide_eq_decide]; omega
  have gB : decide ((0 : Int) ≤ 41 - r - (tl + 1)) = decide (tl + 1 ≤ 41 - r) := by rw [decide_eq_decide]; omega
  rw [gA, gB] at Hnd
  clear gA gB
  cases hA : decide ((1 : Int) ≤ 6 - n) <;> cases hB : decide (tl + 1 ≤ 41 - r)
  all_goals
   rw [hA, hB] at Hnd
   go_wp2_with fail
   go_ret
   exact ⟨by rw [Hnd.out]; rfl, fun _ => ⟨U1.out, U2.out⟩, HK2.out⟩
 ·rw [decide_eq_false hn] at hnd HN
  have hx : ¬ Pth.Next d t := fun h => hn h.1
  have Hx := Lib.hid hx
  have Hnd := Lib.hid hnd
  clear hd hn hnd hls hx r1 r2
  generalize mk t = x at *
  go_enter Tryz.func429, Tryz.ntmps429
  go_wp2_with (go_at_call 430; refine (HN.out _).mono ?_; rintro e w1 ⟨rfl, hb1⟩)
  go_ret
  exact ⟨by rw [Hnd.out]; rfl, fun h => absurd h Hx.out, Kept.ofBelow hb1 _⟩
open Go.RowKit
theorem extract_mk (l : List UInt8) (i j : Nat) : (mk l).extract i j = mk ((l.drop i).take (j - i)) := bytes_ext (by rw [Lib.extract_data, mk_data, mk_data])
theorem lite_cut_no (s : List UInt8) (w : World) (hs : s.length ≤ 100000) (h : ∀ c ∈ s, c.toNat ≠ 47) :
  Calls Tryz.prog 431 #[.string (mk s), .string ⟨#[47]⟩] w fun e w' => e = .returned (.tuple #[.string (mk s), .string ⟨#[]⟩, .bool false]) ∧ Below w.heap.size w w' := by
 have hi : Lib.indexByte s 47 = -1 := by
  rcases Pth.index_cases s with ⟨h1, -⟩ | ⟨a, b, rfl, -, -⟩
  ·exact h1
  ·exact absurd rfl (h 47 (by simp))
 have HI := fun W => Tryz.stringslite_Index_one (mk s) 47 W
 rw [mk_data, hi] at HI
 have HI0 := HI
 clear HI
 have HI := Lib.hid HI0
 clear HI0
 clear h hi
 generalize mk s = x at *
 go_enter Tryz.func431, Tryz.ntmps431
 go_wp2_with (go_at_call 459; refine (HI.out _).mono ?_; rintro e w1 ⟨rfl, rfl⟩)
 go_ret3
 exact ⟨rfl, Below.refl _ _⟩
theorem lite_cut_at (a b : List UInt8) (w : World) (hs : (a ++ 47 :: b).length ≤ 100000) (h : ∀ c ∈ a, c.toNat ≠ 47) :
  Calls Tryz.prog 431 #[.string (mk (a ++ 47 :: b)), .string ⟨#[47]⟩] w fun e w' => e = .returned (.tuple #[.string (mk a), .string (mk b), .bool true]) ∧ Below w.heap.size w w' := by
 have hi : Lib.indexByte (a ++ 47 :: b) 47 = (a.length : Int) := by
  rcases Pth.index_cases (a ++ 47 :: b) with ⟨-, h2⟩ | ⟨a2, b2, e, h2, h3⟩
  ·exact absurd rfl (h2 47 (by simp))
  ·have : a2 = a := by
    rcases List.append_eq_append_iff.1 e with ⟨c, e1, e2⟩ | ⟨c, e1, e2⟩
    ·cases c with
     | nil => simpa using e1
     | cons y c =>
      injection e2 with e2 e3
      exact absurd rfl (h2 47 (by rw [e1, e2]; simp))
    ·cases c with
     | nil => simpa using e1.symm
     | cons y c =>
      injection e2 with e2 e3
      exact absurd rfl (h 47 (by rw [e1, e2]; simp))
   rw [h3, this]
 have HI := fun W => Tryz.stringslite_Index_one (mk (a ++ 47 :: b)) 47 W
 rw [mk_data, hi] at HI
 have HI0 := HI
 clear HI
 have HI := Lib.hid HI0
 clear HI0
 have hl : (mk (a ++ 47 :: b)).size = a.length + 1 + b.length := by rw [mk_len, List.length_append, List.length_cons]; omega
 have x1 : (mk (a ++ 47 :: b)).extract 0 a.length = mk a := by rw [extract_mk]; congr 1; simp
 have x2 : (mk (a ++ 47 :: b)).extract (a.length + 1) (mk (a ++ 47 :: b)).size = mk b := by
  rw [hl, extract_mk]; congr 1
  rw [List.drop_append, List.drop_eq_nil_of_le (by omega)]
  simp
 rw [List.length_append, List.length_cons] at hs
 have g0 : (0 : Int) ≤ (a.length : Int) := by omega
 have g1 : (a.length : Int) ≤ 100000 := by omega
 have g2 : (a.length : Int) ≤ ((mk (a ++ 47 :: b)).size : Int) := by omega
 have g3 : (a.length : Int) + 1 ≤ ((mk (a ++ 47 :: b)).size : Int) := by omega
 have g4 : ((mk (a ++ 47 :: b)).size : Int) ≤ 100001 := by omega
 have X1 := Lib.hid x1
 have X2 := Lib.hid x2
 clear h hi x1 x2 hl hs
 generalize mk (a ++ 47 :: b) = x at *
 generalize mk a = y at *
 generalize mk b = z at *
 generalize a.length = n at *
 go_enter Tryz.func431, Tryz.ntmps431
 go_wp2_with (go_at_call 459; refine (HI.out _).mono ?_; rintro e w1 ⟨rfl, rfl⟩)
 go_quiet (fail)
 go_wp2_with fail
 go_ret3
 exact ⟨by show Ending.returned (.tuple #[.string (x.extract 0 n), .string (x.extract (n + 1) x.size), .bool true]) = _; rw [X1.out, X2.out], below_drews' _ _⟩
theorem cut_no (s : List UInt8) (w : World) (hs : s.length ≤ 100000) (h : ∀ c ∈ s, c.toNat ≠ 47) :
  Calls Tryz.prog 401 #[.string (mk s), .string ⟨#[47]⟩] w fun e w' => e = .returned (.tuple #[.string (mk s), .string ⟨#[]⟩, .bool false]) ∧ Below w.heap.size w w' := by
 have HI := Lib.hid (fun W => lite_cut_no s W hs h)
 clear h hs
 generalize mk s = x at *
 go_enter Tryz.func401, Tryz.ntmps401
 go_wp2_with (go_at_call 431; refine (HI.out _).mono ?_; rintro e w1 ⟨rfl, hb⟩)
 go_ret3
 exact ⟨rfl, hb⟩
theorem cut_at (a b : List UInt8) (w : World) (hs : (a ++ 47 :: b).length ≤ 100000) (h : ∀ c ∈ a, c.toNat ≠ 47) :
  Calls Tryz.prog 401 #[.string (mk (a ++ 47 :: b)), .string ⟨#[47]⟩] w fun e w' => e = .returned (.tuple #[.string (mk a), .string (mk b), .bool true]) ∧ Below w.heap.size w w' := by
 have HI := Lib.hid (fun W => lite_cut_at a b W hs h)
 clear h hs
 generalize mk (a ++ 47 :: b) = x at *
 generalize mk a = y at *
 generalize mk b = z at *
 go_enter Tryz.func401, Tryz.ntmps401
 go_wp2_with (go_at_call 431; refine (HI.out _).mono ?_; rintro e w1 ⟨rfl, hb⟩)
 go_ret3
 exact ⟨rfl, hb⟩
theorem pth_parent (a : List UInt8) (w : World) (ha : a.length ≤ 100000) :
  Calls Tryz.prog 294 #[.string (mk a)] w fun e w' => e = .returned (.string (mk (Pth.parent a))) ∧ Below w.heap.size w w' := by
 have HL := fun W => Tryz.strings_LastIndex_one (mk a) ⟨#[47]⟩ rfl (by rw [mk_len]; omega) W
 have ls : (mk a).size = a.length := mk_len a
 rcases Pth.last_cases (mk a) with ⟨h1, h2⟩ | ⟨i, hi, h1, h2⟩
 ·rw [mk_data] at h2
  have HL : Hid (∀ W, Calls Tryz.prog 355 #[.string (mk a), .string ⟨#[47]⟩] W fun e w' => e = .returned (.int .i64 (-1)) ∧ w' = W) := Lib.hid (fun W => (HL W).mono (fun e w' hh => ⟨by rw [hh.1]; exact congrArg (fun n => Ending.returned (.int .i64 n)) h1, hh.2⟩))
  rw [h2]
  have x1 : Hid ((mk a).extract 0 0 = mk []) := Lib.hid (by rw [extract_mk]; simp)
  have g4 : ((mk a).size : Int) ≤ 100000 := by omega
  clear h1 h2 ls
  generalize mk a = x at *
  go_enter Tryz.func294, Tryz.ntmps294
  go_wp2_with (go_at_call 355; refine (HL.out _).mono ?_; rintro e w1 ⟨rfl, rfl⟩)
  go_ret
  exact ⟨by show Ending.returned (.string (x.extract 0 (max (-1) 0 : Int).toNat)) = _; rw [show (max (-1) 0 : Int).toNat = 0 from rfl, x1.out], Below.refl _ _⟩
 ·rw [mk_data] at h2
  have HL : Hid (∀ W, Calls Tryz.prog 355 #[.string (mk a), .string ⟨#[47]⟩] W fun e w' => e = .returned (.int .i64 (i : Int)) ∧ w' = W) := Lib.hid (fun W => (HL W).mono (fun e w' hh => ⟨by rw [hh.1]; exact congrArg (fun n => Ending.returned (.int .i64 n)) h1, hh.2⟩))
  rw [h2]
  have x1 : Hid ((mk a).extract 0 i = mk (a.take i)) := Lib.hid (by rw [extract_mk]; simp)
  have g1 : (0 : Int) ≤ (i : Int) := by omega
  have g2 : (i : Int) ≤ ((mk a).size : Int) := by omega
  have g4 : ((mk a).size : Int) ≤ 100000 := by omega
  clear h1 h2 ls hi
  generalize mk a = x at *
  go_enter Tryz.func294, Tryz.ntmps294
  go_wp2_with (go_at_call 355; refine (HL.out _).mono ?_; rintro e w1 ⟨rfl, rfl⟩)
  go_ret
  exact ⟨by rw [← x1.out]; rfl, Below.refl _ _⟩
open Go.RowKit
theorem Pth.own_at {w w' : World} {base t size n : Nat} {v : Value} {xs : List Value} (h : w.ownsRow base t size v n xs) (k : ∀ i, v.ownBlock = some i → w'.heap[i]? = w.heap[i]?) : w'.ownsRow base t size v n xs := by
 refine ⟨h.1, ?_⟩
 rcases h.2 with hn | ⟨g, cap, cur, rfl, hb, hgg, rest⟩
 ·exact .inl hn
 ·exact .inr ⟨g, cap, cur, rfl, hb, (k g rfl).trans hgg, rest⟩
structure NmAt (w : World) (d e : List (List UInt8)) (v : Value) (wr : World) : Prop where
 own : wr.ownsRow (w.heap.size + 2) 9 1 v d.length (texts d)
 r1 : Row wr w.heap.size 3 #[cnt e]
 r2 : Row wr (w.heap.size + 1) 3 #[room e]
 bel : Below w.heap.size w wr
 size : w.heap.size + 2 ≤ wr.heap.size
theorem NmAt.start (w : World) : NmAt w [] [] (.slice none 0 0) ((w.alloc (.cells #[.int .i64 6] 3)).alloc (.cells #[.int .i64 41] 3)) := by
 refine ⟨World.ownsRow_nil _ _ _ _, (Row.made w _ _).behindNew _, ?_, ((Below.refl _ w).alloc (Nat.le_refl _) _).alloc (by simp) _, by simp⟩
 have := Row.made (w.alloc (.cells #[.int .i64 6] 3)) 3 #[.int .i64 41]
 rw [show (w.alloc (.cells #[.int .i64 6] 3)).heap.size = w.heap.size + 1 from by simp] at this
 exact this
theorem NmAt.below {w w1 w2 : World} {d e : List (List UInt8)} {v : Value} (h : NmAt w d e v w1) (k : Below w1.heap.size w1 w2) : NmAt w d e v w2 :=
 ⟨Pth.own_at h.own (fun i hi => k.block i (h.own.lt _ hi).2), h.r1.below k h.r1.inHeap, h.r2.below k h.r2.inHeap, h.bel.trans (k.mono h.bel.size), Nat.le_trans h.size k.size⟩
theorem NmAt.told {w w1 w2 : World} {d e e' : List (List UInt8)} {v : Value} (h : NmAt w d e v w1) (r1 : Row w2 w.heap.size 3 #[cnt e']) (r2 : Row w2 (w.heap.size + 1) 3 #[room e']) (k : Kept (fun i => i = w.heap.size ∨ i = w.heap.size + 1) w1 w2) : NmAt w d e' v w2 :=
 ⟨Pth.own_at h.own (fun i hi => k.block i (h.own.lt _ hi).2 (by have := (h.own.lt _ hi).1; omega)), r1, r2, h.bel.trans (k.below h.bel.size (fun i hi => by omega)), Nat.le_trans h.size k.size⟩
theorem nm_more {w wr w2 : World} {d e : List (List UInt8)} {v v' : Value} {o : Obj} {x : List UInt8} (h : NmAt w d e v wr) (hown : w2.ownsRow (w.heap.size + 2) 9 1 v' (d.length + 1) (texts d ++ [.string (mk x)])) (hg : (wr.alloc o).grownBy w2 v.ownBlock) : NmAt w (d ++ [x]) e v' w2 := by
 have hne : ∀ k, v.ownBlock = some k → w.heap.size + 2 ≤ k := fun k hk => (h.own.lt k hk).1
 refine ⟨?_, ?_, ?_, ?_, ?_⟩
 ·rw [List.length_append, List.length_singleton]
  simpa [texts] using hown
 ·exact (h.r1.behindNew o).grown hg (fun e => by have := hne _ e; omega)
 ·exact (h.r2.behindNew o).grown hg (fun e => by have := hne _ e; omega)
 ·exact (h.bel.alloc h.bel.size o).grown hg (by have := h.bel.size; simp; omega) (fun k hk => by have := hne k hk; omega)
 ·have := hg.size; have := h.size; simp at *; omega
theorem NmAt.cells {w w' : World} {d e : List (List UInt8)} {v : Value} (h : NmAt w d e v w') : Cells w' (NewIn w w') v (texts d) := Cells.ofOwn h.own (fun _ _ h1 h2 => ⟨by omega, h2⟩)
def moreIn (o m : Value) : Nat := match m, o with | .bool true, .string x => x.size + 1 | _, _ => 0
theorem cut_parts (r : List UInt8) (hr : r.length ≤ 100000) : ∃ (t r' : List UInt8) (m : Bool), (∀ W, Calls Tryz.prog 401 #[.string (mk r), .string ⟨#[47]⟩] W fun e w' => e = .returned (.tuple #[.string (mk t), .string (mk r'), .bool m]) ∧ Below W.heap.size W w') ∧
  Pth.splitA [] r = t :: (if m then Pth.splitA [] r' else []) ∧ t.length ≤ r.length ∧ r'.length ≤ r.length ∧ moreIn (.string (mk r')) (.bool m) < moreIn (.string (mk r)) (.bool true) := by
 rcases Pth.index_cases r with ⟨-, h⟩ | ⟨a, b, rfl, h, -⟩
 ·refine ⟨r, [], false, fun W => cut_no r W hr h, ?_, Nat.le_refl _, Nat.zero_le _, ?_⟩
  ·rw [Pth.splitA_no h]; simp
  ·show 0 < (mk r).size + 1; omega
 ·refine ⟨a, b, true, fun W => cut_at a b W hr h, ?_, by simp, by simp; omega, ?_⟩
  ·rw [Pth.splitA_at h]; simp
  ·show (mk b).size + 1 < (mk (a ++ 47 :: b)).size + 1
   rw [mk_len, mk_len]; simp; omega
theorem pth_names (s : List UInt8) (w : World) (hs : s.length ≤ 100000) :
    Calls Tryz.prog 375 #[.string (mk s)] w fun e w' => ∃ v, e = .returned (.tuple #[v, .int .i64 (if Pth.Right s then 0 else 13)]) ∧ Cells w' (NewIn w w') v (texts (if Pth.Right s then Pth.split s else [])) ∧ Below w.heap.size w w' := by
  obtain ⟨i0, hi, hz0, hz1, hz2⟩ := info_parts strInfo
  have HN := Lib.hid (pth_namer w)
  unfold mayF at HN
  generalize hE : (if Pth.Right s then (0 : Int) else 13) = E
  generalize hL : (if Pth.Right s then Pth.split s else []) = L
  have HE := Lib.hid hE
  have HL := Lib.hid hL
  clear hE hL
  go_enter Tryz.func375, Tryz.ntmps375
  go_wp2_with (go_at_call 400; refine HN.out.mono ?_; rintro e w1 ⟨rfl, e1⟩
               have h0 := Lib.hid (e1 ▸ NmAt.start w)
               clear e1)
  go_loopw [0, 5, 6] (fun o v b wr => ∃ (d : List (List UInt8)) (u : Value) (x : List UInt8) (m : Bool), o = .string (mk x) ∧ b = .bool m ∧ u = v ∧ Pth.split s = d ++ (if m then Pth.splitA [] x else []) ∧ Pth.Fit d ∧ NmAt w d d u wr ∧ x.length ≤ 100000) (fun o _ b _ => moreIn o b)
  case atStart => exact ⟨[], _, s, true, rfl, rfl, rfl, by simp [Pth.split], Pth.fit_nil, h0.out, hs⟩
  case round =>
    obtain ⟨d, v, x, m, rfl, rfl, rfl, hsp, hfit, hat, hx⟩ := hrel
    cases m
    · have hsd : Pth.split s = d := by rw [hsp]; simp
      have hR : Pth.Right s := (Pth.right_fit s).2 (hsd ▸ hfit)
      have E0 : Hid (E = 0) := Lib.hid (by rw [← HE.out, if_pos hR])
      have L0 : Hid (L = d) := Lib.hid (by rw [← HL.out, if_pos hR, hsd])
      have Hat := Lib.hid hat
      clear hat hsp hfit hR hsd
      generalize mk x = X at *
      go_wp2_with fail
      go_ret2
      exact ⟨v, by rw [E0.out]; rfl, by rw [L0.out]; exact Hat.out.cells, Hat.out.bel⟩
    · obtain ⟨t, r', m', hcut, hsa, htl, hrl, hmeas⟩ := cut_parts x hx
      have HC := Lib.hid hcut
      have hd6 : d.length ≤ 6 := hfit.2.1
      have HM := Lib.hid (fun (W : World) (h : NmAt w d d v W) => pth_may (d := d) t h.r1 h.r2 (by omega) hfit (by omega))
      have Hat := Lib.hid hat
      have Hmeas := Lib.hid hmeas
      clear hcut hat hmeas
      by_cases hn : Pth.Next d t
      · have hsp2 : Hid (Pth.split s = (d ++ [t]) ++ (if m' then Pth.splitA [] r' else [])) := Lib.hid (by rw [hsp, if_pos rfl, hsa]; simp)
        have hfit2 := Lib.hid (Pth.fit_next hfit hn)
        have Hr := Lib.hid (Nat.le_trans hrl hx)
        have Hn := Lib.hid hn
        rw [decide_eq_true hn] at HM
        have hlen : Hid ((texts d).length = d.length) := Lib.hid (texts_len d)
        clear hsp hfit hn htl hrl hsa hx
        generalize hx1 : mk t = x1 at *
        generalize mk x = X at *
        generalize hx2 : mk r' = x2 at *
        go_wp2_with fail
        refine (HC.out _).mono ?_
        rintro e w2 ⟨rfl, hb2⟩
        have h2 := Lib.hid (Hat.out.below hb2)
        clear hb2
        go_wp2_with fail
        refine (HM.out _ h2.out).mono ?_
        rintro e w3 ⟨rfl, hr3, hk3⟩
        have h3 := Lib.hid (h2.out.told (hr3 Hn.out).1 (hr3 Hn.out).2 hk3)
        have hown3 := h3.out.own
        have hz3 := h3.out.size
        clear hr3 hk3
        have hc1 : ∀ {w1 : World} j u, [Value.string x1][j]? = some u → (w1.alloc (.cells #[.string x1] 9)).cell? ((⟨w1.heap.size, 0, none⟩ : Addr).add j) = some u := by
          intro w1 j u hj
          match j, hj with
          | 0, hj => simp at hj; subst hj; simp [Addr.add]
        go_wp2_with (at_builtin; refine wpList_append_own _ rfl _ _ 152 rfl (w.heap.size + 2) 9 i0 (.string ⟨#[]⟩) 1 16 Tryz.underlying152 hi hz0 hz1 hz2 rfl (by decide) _ _ _ rfl (hown3.alloc _) ⟨w3.heap.size, 0, none⟩ 1 1 [.string x1] rfl rfl hc1 ?c2 ?c3 ?c4 ?c5 ?_)
        case c2 => first | rfl | (intro u hu; simp at hu; subst hu; rfl)
        case c3 => unfold maxLen; omega
        case c4 => omega
        case c5 => first | omega | (simp; omega)
        intro v' w4 hown' hgrow' _
        have hnew := nm_more h3.out (x := t) (v' := v') (by rw [hx1]; simpa using hown') hgrow'
        clear hown' hgrow' hown3
        go_wp2
        go_roundw
        case rel => exact ⟨d ++ [t], _, r', m', by rw [hx2], rfl, rfl, hsp2.out, hfit2.out, hnew, Hr.out⟩
        case measure => exact Hmeas.out
      · have hR : ¬ Pth.Right s := fun h => by
          have := (Pth.right_fit s).1 h
          rw [hsp, if_pos rfl, hsa] at this
          exact Pth.fit_not hn this
        have E0 : Hid (E = 13) := Lib.hid (by rw [← HE.out, if_neg hR])
        have L0 : Hid (L = []) := Lib.hid (by rw [← HL.out, if_neg hR])
        rw [decide_eq_false hn] at HM
        clear hsp hfit hn htl hrl hsa hx hR Hmeas hd6
        generalize mk t = x1 at *
        generalize mk x = X at *
        generalize mk r' = x2 at *
        go_wp2_with fail
        refine (HC.out _).mono ?_
        rintro e w2 ⟨rfl, hb2⟩
        have h2 := Lib.hid (Hat.out.below hb2)
        clear hb2
        go_wp2_with fail
        refine (HM.out _ h2.out).mono ?_
        rintro e w3 ⟨rfl, -, hk3⟩
        have hb3 : Hid (Below w.heap.size w w3) := Lib.hid (h2.out.bel.trans (hk3.below h2.out.bel.size (fun i hi => by omega)))
        clear hk3
        go_wp2_with fail
        go_ret2
        exact ⟨.slice none 0 0, by rw [E0.out]; rfl, by rw [L0.out]; exact Cells.none _ _, hb3.out⟩
theorem pth_check (s : List UInt8) (w : World) (hs : s.length ≤ 100000) :
  Calls Tryz.prog 340 #[.string (mk s)] w fun e w' => e = .returned (.int .i64 (if Pth.Right s then 0 else 13)) ∧ Below w.heap.size w w' := by
 have HN := Lib.hid (pth_names s w hs)
 generalize (if Pth.Right s then (0 : Int) else 13) = R at *
 generalize mk s = X at *
 go_enter Tryz.func340, Tryz.ntmps340
 go_wp2_with (go_at_call 375; refine HN.out.mono ?_; rintro e w1 ⟨v, rfl, -, hb⟩)
 go_ret
 exact ⟨rfl, hb⟩
open Go.RowKit
theorem path_ok : PathOk where
 check := pth_check
 names := pth_names
 parent := pth_parent
end Go.Proofs.YtpafpegcodempaaGreat
