/- The landed path: which texts are names (isName). -/
import Derived.Test.YtjnpgfndbdddnaaGreatCom10
import Derived.Test.YtjnpgfndbdddnaaGreatCom5
import Derived.Test.YtjnpgfndbdddnaaGreatCom7
import Derived.Lib.OthersKept
import Derived.WalkMore
set_option linter.unusedSimpArgs false
set_option linter.unusedVariables false
namespace Go.Proofs.YtjnpgfndbdddnaaGreat
open Go.RowKit

set_option maxRecDepth 100000 in
/-- What a range over a text finds: a byte below 128 as it is, else a great number. -/
theorem rune_cases (s : ByteArray) (k : Nat) (h : k < s.size) {c : UInt8} (hc : s.data.toList[k]? = some c) : ∃ r wd : Nat, (Utf8.decode s k).1 = r ∧ (Utf8.decode s k).2 = wd ∧ r ≤ 2147483647 ∧ 1 ≤ wd ∧ (r < 128 → r = c.toNat ∧ wd = 1) ∧ (128 ≤ r → 128 ≤ c.toNat) := by
  have hc' : s[k]'h = c := by
    rw [List.getElem?_eq_getElem (by rw [← Lib.size_eq]; exact h), Array.getElem_toList] at hc
    injection hc
  refine ⟨_, _, rfl, rfl, decode_le s k, ?_, ?_, ?_⟩
  all_goals
    by_cases ha : (s[k]'h).toNat < 128
    · rw [decode_ascii s k h ha, hc']
      rw [hc'] at ha
      first | omega | (intro; exact ⟨rfl, rfl⟩) | (intro hh; simp only at hh; omega)
    · have := decode_high s k h (by omega)
      rw [hc'] at ha
      omega

set_option maxRecDepth 100000 in
theorem good_cases (n : Nat) : n = 46 ∨ (97 ≤ n ∧ n ≤ 122) ∨ (48 ≤ n ∧ n ≤ 57) ∨ n = 45 ∨ n = 95 ∨ n < 45 ∨ n = 47 ∨ (57 < n ∧ n < 95) ∨ n = 96 ∨ 122 < n := by omega

set_option maxRecDepth 100000 in
set_option maxHeartbeats 6400000 in
theorem pth_isname (s : List UInt8) (w : World) (hs : s.length ≤ 100000) :
    Calls Tryz.prog 79 #[.string (mk s)] w fun e w' => e = .returned (.bool (decide (Pth.Name s))) ∧ Below w.heap.size w w' := by
  have ls : (mk s).size = s.length := mk_len s
  have hS : ((mk s).size : Int) ≤ 100000 := by rw [ls]; omega
  by_cases h12 : s.length ≤ 12
  · have g1 : decide ((12 : Int) < ((mk s).size : Int)) = false := by rw [ls]; exact decide_eq_false (by omega)
    have Ls := Lib.hid ls
    clear ls
    generalize hxs : mk s = xs at *
    have Hxs := Lib.hid hxs
    go_enter Tryz.func79, Tryz.ntmps79
    go_wp2_with fail
    go_step3
    go_wp2_with fail
    go_step3
    go_wp2_with fail
    go_loopw [3, 4] (fun g d wr => ∃ k : Nat, k ≤ s.length ∧ g = .int .i64 (k : Int) ∧ d = .int .i64 (Pth.dots (s.take k) : Int) ∧ (∀ c ∈ s.take k, Pth.okChar c = true) ∧ wr.heap[w.heap.size]? = some (.stringIter xs k) ∧ Below w.heap.size w wr) (fun _ _ wr => s.length - wr.iterPos w.heap.size)
    case atStart => exact ⟨0, Nat.zero_le _, rfl, rfl, by simp, by have := World.iter_heap w xs 0; simpa using this, by first | exact (Below.refl _ w).alloc (Nat.le_refl _) _ | simpa using (Below.refl _ w).alloc (Nat.le_refl _) (.stringIter xs 0)⟩
    case round =>
      obtain ⟨k, hk, rfl, rfl, hall, hit, hbel⟩ := hrel
      have hk0 : (0 : Int) ≤ (k : Int) := by omega
      have hdk : Pth.dots (s.take k) ≤ k := by
        have := List.countP_le_length (p := fun c : UInt8 => c.toNat == 46) (l := s.take k)
        rw [List.length_take] at this
        unfold Pth.dots; omega
      have Hall := Lib.hid hall
      have Hbel := Lib.hid hbel
      clear hall hbel
      by_cases hlt : k < s.length
      · have hlx : k < xs.size := by have := Ls.out; omega
        obtain ⟨c, hc, ic⟩ := idx xs k hlx
        clear ic
        obtain ⟨r, wd, e1, e2, hr, hw1, hlow, hhigh⟩ := rune_cases xs k hlx hc
        have hnx : ∀ ty, (Instr.next (.pointer (some ⟨w.heap.size, 0, none⟩)) true ty).run Tryz.prog wr = .ok (.tuple #[.bool true, .int .i64 k, .int .i32 (r : Int)]) (wr.iterAt w.heap.size xs (k + wd)) := fun ty => by
          rw [Lib.run_next_any_at wr w.heap.size xs k ty hit hlx, e1, e2]
        have hit2 := Lib.hid (Lib.iterAt_heap wr w.heap.size xs k (k + wd) hit)
        have hbel2 := Lib.hid (Lib.below_iterAt Hbel.out (k := w.heap.size) (Nat.le_refl _) xs (k + wd))
        have hsc : s[k]? = some c := by rw [← hc, ← Hxs.out, mk_data]
        obtain ⟨hl, he⟩ := List.getElem?_eq_some_iff.1 hsc
        have htk : s.take (k + 1) = s.take k ++ [c] := by rw [List.take_succ_eq_append_getElem hl, he]
        have hdn : Hid (Pth.dots (s.take (k + 1)) = Pth.dots (s.take k) + (if c.toNat = 46 then 1 else 0)) := Lib.hid (by
          rw [htk]
          unfold Pth.dots
          rw [List.countP_append, List.countP_singleton]
          by_cases h : c.toNat = 46
          · rw [if_pos h, h]; rfl
          · rw [if_neg h, if_neg (by simpa using h)])
        have hgood : Hid (Pth.okChar c = true → ∀ x ∈ s.take (k + 1), Pth.okChar x = true) := Lib.hid (fun h x hx => by
          rw [htk, List.mem_append] at hx
          rcases hx with hx | hx
          · exact Hall.out x hx
          · rw [List.mem_singleton.1 hx]; exact h)
        have hbad : Hid (Pth.okChar c = false → decide (Pth.Name s) = false) := Lib.hid (fun h => decide_eq_false (fun m => by
          have := m.1 c (List.mem_of_getElem? hsc)
          rw [h] at this; cases this))
        have hok : Hid (Pth.okChar c = ((decide (97 ≤ c.toNat) && decide (c.toNat ≤ 122)) || (decide (48 ≤ c.toNat) && decide (c.toNat ≤ 57)) || c.toNat == 45 || c.toNat == 95 || c.toNat == 46)) := Lib.hid rfl
        have hc256 := c.toNat_lt
        have hd9 : ((Pth.dots (s.take k) : Nat) : Int) ≤ 100000 := by omega
        have hpos : wr.iterPos w.heap.size = k := by simp [World.iterPos, hit]
        have hpos2 : Hid ((wr.iterAt w.heap.size xs (k + wd)).iterPos w.heap.size = k + wd) := Lib.hid (by have := hit2.out; simp [World.iterPos, this])
        have Hpos := Lib.hid hpos
        have hge : ((k : Int) == (xs.size : Int)) = false := by rw [beq_eq_false_iff_ne]; omega
        have hkx : (k : Int) ≤ 100000 := by omega
        clear hc hsc htk he hl hdk e1 e2 hit hpos
        generalize wr.iterAt w.heap.size xs (k + wd) = wi at *
        generalize c.toNat = cn at *
        generalize Pth.dots (s.take k) = dk at *
        rcases good_cases r with h | h | h | h | h | h | h | h | h | h
        all_goals
          first | (have e46 : ((r : Int) == 46) = true := by rw [beq_iff_eq]; omega) | (have e46 : ((r : Int) == 46) = false := by rw [beq_eq_false_iff_ne]; omega)
          first | (have d97 : decide ((97 : Int) ≤ (r : Int)) = true := decide_eq_true (by omega)) | (have d97 : decide ((97 : Int) ≤ (r : Int)) = false := decide_eq_false (by omega))
          first | (have d122 : decide ((r : Int) ≤ 122) = true := decide_eq_true (by omega)) | (have d122 : decide ((r : Int) ≤ 122) = false := decide_eq_false (by omega))
          first | (have d48 : decide ((48 : Int) ≤ (r : Int)) = true := decide_eq_true (by omega)) | (have d48 : decide ((48 : Int) ≤ (r : Int)) = false := decide_eq_false (by omega))
          first | (have d57 : decide ((r : Int) ≤ 57) = true := decide_eq_true (by omega)) | (have d57 : decide ((r : Int) ≤ 57) = false := decide_eq_false (by omega))
          first | (have e45 : ((r : Int) == 45) = true := by rw [beq_iff_eq]; omega) | (have e45 : ((r : Int) == 45) = false := by rw [beq_eq_false_iff_ne]; omega)
          first | (have e95 : ((r : Int) == 95) = true := by rw [beq_iff_eq]; omega) | (have e95 : ((r : Int) == 95) = false := by rw [beq_eq_false_iff_ne]; omega)
          first
            | (have hT : Hid (Pth.okChar c = true ∧ wd = 1 ∧ r = cn) := Lib.hid (by
                 have := hlow (by omega)
                 refine ⟨?_, this.2, this.1⟩
                 rw [hok.out]; simp; omega))
            | (have hF : Hid (Pth.okChar c = false) := Lib.hid (by
                 rw [hok.out]
                 by_cases h8 : r < 128
                 · have := hlow h8; simp; omega
                 · have := hhigh (by omega); simp; omega))
          have HH := Lib.hid h
          have Hr := Lib.hid hr
          clear h hlow hhigh hr hw1
          go_wp2_with fail
          first
            | (try rw [Exit.noGoto_ret]
               go_ret
               exact ⟨by rw [hbad.out hF.out]; rfl, hbel2.out⟩)
            | (refine ⟨⟨k + 1, by omega, rfl, ?_, hgood.out hT.out.1, by have := hit2.out; rw [hT.out.2.1] at this; exact this, hbel2.out⟩, ?_⟩
               · rw [hdn.out]
                 first
                   | (rw [if_pos (by have := HH.out; have := hT.out; omega)]; rfl)
                   | (rw [if_neg (by have := HH.out; have := hT.out; omega)]; rfl)
               · rw [hpos2.out, Hpos.out, hT.out.2.1]; omega)
      · have hks : s.length = k := by omega
        have hnx : ∀ ty, (Instr.next (.pointer (some ⟨w.heap.size, 0, none⟩)) true ty).run Tryz.prog wr = .ok (.tuple #[.bool false]) wr := fun ty => Lib.run_next_end_at wr w.heap.size xs k ty hit (by have := Ls.out; omega)
        have htk : s.take k = s := by rw [← hks]; exact List.take_length
        rw [htk] at Hall hdk
        have hge : ((k : Int) == (xs.size : Int)) = true := by rw [beq_iff_eq]; have := Ls.out; omega
        have hfin : Hid (decide (Pth.Name s) = decide (((Pth.dots s : Nat) : Int) < (k : Int))) := Lib.hid (by
          rw [decide_eq_decide]
          unfold Pth.Name
          constructor
          · rintro ⟨-, -, -, h⟩; omega
          · intro h; exact ⟨Hall.out, by omega, h12, by omega⟩)
        rw [htk]
        clear hit hks htk hlt hdk hk
        generalize ((Pth.dots s : Nat) : Int) = dk at *
        cases hd : decide (dk < (k : Int))
        all_goals
          rw [hd] at hfin
          go_wp2_with fail
          try rw [Exit.noGoto_ret]
          go_ret
          exact ⟨by rw [hfin.out]; rfl, Hbel.out⟩
  · have g1 : decide ((12 : Int) < ((mk s).size : Int)) = true := by rw [ls]; exact decide_eq_true (by omega)
    have hx : Hid (decide (Pth.Name s) = false) := Lib.hid (decide_eq_false (fun h => h12 h.2.2.1))
    clear h12 ls
    generalize mk s = xs at *
    go_enter Tryz.func79, Tryz.ntmps79
    go_wp2_with fail
    go_step3
    go_wp2_with fail
    try rw [Exit.noGoto_ret]
    go_ret
    exact ⟨by rw [hx.out]; rfl, Below.refl _ _⟩
end Go.Proofs.YtjnpgfndbdddnaaGreat
/- The landed path: the function that is told names, one behind the other. -/
set_option linter.unusedSimpArgs false
set_option linter.unusedVariables false
namespace Go.Proofs.YtjnpgfndbdddnaaGreat
open Go.RowKit

def mayF (c1 c2 : Nat) : Value := .func (.func 78) #[] #[.pointer (some ⟨c1, 0, none⟩), .pointer (some ⟨c2, 0, none⟩)]

set_option maxRecDepth 100000 in
theorem pth_namer (w : World) :
    Calls Tryz.prog 59 #[] w fun e w' => e = .returned (mayF w.heap.size (w.heap.size + 1)) ∧ w' = (w.alloc (.cells #[.int .i64 6] 3)).alloc (.cells #[.int .i64 41] 3) := by
  unfold mayF
  go_enter Tryz.func59, Tryz.ntmps59
  go_wp2_with fail
  go_ret
  exact ⟨rfl, rfl⟩

set_option maxRecDepth 100000 in
theorem next_dec (d : List (List UInt8)) (t : List UInt8) : decide (Pth.Next d t) = (decide (Pth.Name t) && decide ((0 : Int) ≤ (6 - (d.length : Int)) - 1) && decide ((0 : Int) ≤ (41 - (Pth.lens d : Int)) - ((t.length : Int) + 1))) := by
  rw [Bool.eq_iff_iff]
  simp only [Bool.and_eq_true, decide_eq_true_eq, and_assoc]
  exact Iff.rfl

def cnt (d : List (List UInt8)) : Value := .int .i64 (6 - (d.length : Int))
def room (d : List (List UInt8)) : Value := .int .i64 (41 - (Pth.lens d : Int))

set_option maxRecDepth 100000 in
set_option maxHeartbeats 1600000 in
theorem pth_may {w : World} {c1 c2 : Nat} {d : List (List UInt8)} (t : List UInt8) (r1 : Row w c1 3 #[cnt d]) (r2 : Row w c2 3 #[room d]) (hne : c1 ≠ c2) (hd : Pth.Fit d) (ht : t.length ≤ 100000) :
    Calls Tryz.prog 78 #[.string (mk t), .pointer (some ⟨c1, 0, none⟩), .pointer (some ⟨c2, 0, none⟩)] w fun e w' =>
      e = .returned (.bool (decide (Pth.Next d t))) ∧ (Pth.Next d t → Row w' c1 3 #[cnt (d ++ [t])] ∧ Row w' c2 3 #[room (d ++ [t])]) ∧ Kept (fun i => i = c1 ∨ i = c2) w w' := by
  have HN := Lib.hid (fun W => pth_isname t W ht)
  have ht63 : ((mk t).size : Int) ≤ 100000 := by rw [mk_len]; omega
  have hls : ((mk t).size : Int) = (t.length : Int) := by rw [mk_len]
  have hnd := next_dec d t
  by_cases hn : Pth.Name t
  · rw [decide_eq_true hn] at hnd HN
    have hd6 : (d.length : Int) ≤ 6 := by have := hd.2.1; omega
    have hd0 : (0 : Int) ≤ (d.length : Int) := by omega
    have hr41 : (Pth.lens d : Int) ≤ 41 := by have := hd.2.2; omega
    have hr0 : (0 : Int) ≤ (Pth.lens d : Int) := by omega
    have e1 : cnt (d ++ [t]) = .int .i64 (6 - (d.length : Int) - 1) := by unfold cnt; rw [List.length_append, List.length_singleton]; congr 1; omega
    have e2 : room (d ++ [t]) = .int .i64 (41 - (Pth.lens d : Int) - ((t.length : Int) + 1)) := by unfold room; rw [Pth.lens_append]; simp only [Pth.lens]; congr 1; omega
    rw [e1, e2]
    have r1' := r1
    have r2' := r2
    unfold cnt at r1'
    unfold room at r2'
    have q1 : w.cell? ⟨c1, 0, none⟩ = some (.int .i64 (6 - (d.length : Int))) := r1'.at 0
    have q2 : w.cell? ⟨c2, 0, none⟩ = some (.int .i64 (41 - (Pth.lens d : Int))) := r2'.at 0
    have l1 := r1.inHeap
    have l2 := r2.inHeap
    have R1 := Lib.hid r1'
    have R2 := Lib.hid r2'
    clear e1 e2 hd hn r1 r2 r1' r2'
    have hl0 : (0 : Int) ≤ (t.length : Int) := by omega
    have hl9 : (t.length : Int) ≤ 100000 := by omega
    rw [hls] at ht63
    have Hnd := Lib.hid hnd
    have Hne := Lib.hid hne
    clear hnd
    generalize hx : mk t = x at *
    generalize (d.length : Int) = n at *
    generalize (Pth.lens d : Int) = r at *
    generalize (t.length : Int) = tl at *
    generalize decide (Pth.Next d t) = R at *
    go_enter Tryz.func78, Tryz.ntmps78
    go_wp2_with fail
    refine (HN.out _).mono ?_
    rintro e w1 ⟨rfl, hb1⟩
    have s1 := (R1.out.below hb1 l1)
    have s2 := (R2.out.below hb1 l2)
    have p1 : w1.cell? ⟨c1, 0, none⟩ = some (.int .i64 (6 - n)) := s1.at 0
    have f1 := s1.free 0
    have t1 : Row (w1.setCell ⟨c1, 0, none⟩ (.int .i64 (6 - n - 1))) c1 3 #[.int .i64 (6 - n - 1)] := by simpa using s1.stored 0 (.int .i64 (6 - n - 1))
    have t2 := s2.storedElsewhere (p := ⟨c1, 0, none⟩) (by exact Hne.out) (.int .i64 (6 - n - 1))
    have p2 : (w1.setCell ⟨c1, 0, none⟩ (.int .i64 (6 - n - 1))).cell? ⟨c2, 0, none⟩ = some (.int .i64 (41 - r)) := t2.at 0
    have f2 := t2.free 0
    have K1 : Kept (fun i => i = c1 ∨ i = c2) w (w1.setCell ⟨c1, 0, none⟩ (.int .i64 (6 - n - 1))) := (Kept.ofBelow hb1 _).stored (Or.inl (Or.inl rfl)) _
    generalize hw2 : w1.setCell ⟨c1, 0, none⟩ (.int .i64 (6 - n - 1)) = w2 at *
    have u1 := t1.storedElsewhere (p := ⟨c2, 0, none⟩) (by exact fun e => Hne.out e.symm) (.int .i64 (41 - r - (tl + 1)))
    have u2 : Row (w2.setCell ⟨c2, 0, none⟩ (.int .i64 (41 - r - (tl + 1)))) c2 3 #[.int .i64 (41 - r - (tl + 1))] := by simpa using t2.stored 0 (.int .i64 (41 - r - (tl + 1)))
    have K2 : Kept (fun i => i = c1 ∨ i = c2) w (w2.setCell ⟨c2, 0, none⟩ (.int .i64 (41 - r - (tl + 1)))) := K1.stored (Or.inl (Or.inr rfl)) _
    have p3 : (w2.setCell ⟨c2, 0, none⟩ (.int .i64 (41 - r - (tl + 1)))).cell? ⟨c1, 0, none⟩ = some (.int .i64 (6 - n - 1)) := u1.at 0
    have p4 : (w2.setCell ⟨c2, 0, none⟩ (.int .i64 (41 - r - (tl + 1)))).cell? ⟨c2, 0, none⟩ = some (.int .i64 (41 - r - (tl + 1))) := u2.at 0
    generalize hw3 : w2.setCell ⟨c2, 0, none⟩ (.int .i64 (41 - r - (tl + 1))) = w3 at *
    have U1 := Lib.hid u1
    have U2 := Lib.hid u2
    have HK2 := Lib.hid K2
    clear u1 u2 K1 K2 t1 t2 s1 s2
    have gA : decide ((0 : Int) ≤ 6 - n - 1) = decide ((1 : Int) ≤ 6 - n) := by rw [decide_eq_decide]; omega
    have gB : decide ((0 : Int) ≤ 41 - r - (tl + 1)) = decide (tl + 1 ≤ 41 - r) := by rw [decide_eq_decide]; omega
    rw [gA, gB] at Hnd
    clear gA gB
    cases hA : decide ((1 : Int) ≤ 6 - n) <;> cases hB : decide (tl + 1 ≤ 41 - r)
    all_goals
      rw [hA, hB] at Hnd
      go_wp2_with fail
      go_ret
      exact ⟨by rw [Hnd.out]; rfl, fun _ => ⟨U1.out, U2.out⟩, HK2.out⟩
  · rw [decide_eq_false hn] at hnd HN
    have hx : ¬ Pth.Next d t := fun h => hn h.1
    have Hx := Lib.hid hx
    have Hnd := Lib.hid hnd
    clear hd hn hnd hls hx r1 r2
    generalize mk t = x at *
    go_enter Tryz.func78, Tryz.ntmps78
    go_wp2_with (go_at_call 79; refine (HN.out _).mono ?_; rintro e w1 ⟨rfl, hb1⟩)
    go_ret
    exact ⟨by rw [Hnd.out]; rfl, fun h => absurd h Hx.out, Kept.ofBelow hb1 _⟩
end Go.Proofs.YtjnpgfndbdddnaaGreat
