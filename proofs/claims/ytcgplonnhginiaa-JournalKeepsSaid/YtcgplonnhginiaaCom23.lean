/- A text is copied by the library's Clone: the same bytes, in new memory; the reader's T. -/
import Derived.Test.YtcgplonnhginiaaCom20
import Derived.Test.YtcgplonnhginiaaCom19
import Derived.Test.YtcgplonnhginiaaCom22
import Derived.Deep.RegionLaw
namespace Go.Proofs.Ytcgplonnhginiaa
open Go.RowKit


set_option maxRecDepth 100000 in
theorem byteCellsOf : Try.prog.cellsOf 5 = 1 := by kernel_rfl

set_option maxRecDepth 100000 in
set_option maxHeartbeats 1000000 in
theorem inner_clone (s : ByteArray) (w : World) (hlim : s.size ≤ 281474976710656) :
    Calls Try.prog 90 #[.string s] w fun e w' => e = .returned (.string s) ∧ Below w.heap.size w w' := by
  rcases Nat.eq_zero_or_pos s.size with hz | hpos
  · obtain rfl : s = ⟨#[]⟩ := ByteArray.ext (Array.eq_empty_of_size_eq_zero hz)
    clear hz
    go_enter Try.func90, Try.ntmps90
    go_wp2
    go_ret
    exact ⟨rfl, Below.refl _ _⟩
  · obtain ⟨info, hinfo, hzero, hsize, hbytes⟩ := info_parts byteInfo
    -- the row that is made, by a name of its own
    obtain ⟨blank, hblank⟩ : ∃ blank, blank = madeCells (Value.int .u8 0).cells (((s.size : Nat) : Int).toNat * info.size) := ⟨_, rfl⟩
    have hmake : ∀ V : World, (Instr.makeSlice 64 (.int .i64 (s.size : Int)) (.int .i64 (s.size : Int))).run Try.prog V = .ok (.slice (some ⟨V.heap.size, 0, none⟩) s.size s.size) (V.alloc (.cells blank 5)) := by
      intro V
      have := run_make (P := Try.prog) V 64 5 info (.int .u8 0) Try.underlying64 hinfo hzero .i64 .i64 (s.size : Int) (s.size : Int) (by omega) (by omega) (by rw [hbytes]; omega) (by omega)
      rw [← hblank] at this
      simpa using this
    have hbs : blank.size = s.size := by rw [hblank, size_madeCells, hsize]; simp
    clear hblank
    generalize hw1 : w.alloc (.cells blank 5) = w1
    have hrow : w1.heap[w.heap.size]? = some (.cells blank 5 (0, 0)) := by rw [← hw1]; exact heap_alloc_new w _
    have hcopy := Lib.run_copy_row_string (P := Try.prog) w1 64 9 3 5 w.heap.size 0 s.size s.size s blank 5 Try.underlying64
      (by rw [hinfo]; simp [hsize]) hrow (Nat.le_refl _) (by omega)
    obtain ⟨full, hfull⟩ : ∃ full, full = (blank.toList.take 0 ++ Lib.byteCells s.data.toList ++ blank.toList.drop (0 + s.size)).toArray := ⟨_, rfl⟩
    rw [← hfull] at hcopy
    have hlist : full.toList = Lib.byteCells s.data.toList := by
      rw [hfull]
      simp only [List.take_zero, List.nil_append, Nat.zero_add]
      rw [List.drop_of_length_le (by rw [Array.length_toList]; omega), List.append_nil]
    have hfs : full.size = s.size := by rw [← Array.length_toList, hlist, Lib.byteCells_length, ← Lib.size_eq]
    clear hfull
    have hrow2 : (w1.setRow w.heap.size full).heap[w.heap.size]? = some (.cells full 5 (0, 0)) := setRow_heap _ _ blank _ _ _ hrow
    have hne : s.data.toList ≠ [] := by
      intro h
      have := Lib.size_eq s
      rw [h] at this
      simp only [List.length_nil] at this
      omega
    have hstr := Lib.run_unsafeString_row (P := Try.prog) (w1.setRow w.heap.size full) 132 3 9 5 Try.underlying132 byteCellsOf w.heap.size full.size
      (by unfold World.shape?; rw [hrow2]) s.data.toList hne (by rw [← Lib.size_eq]; omega) (by rw [← Lib.size_eq]; omega)
      (fun j x hx => Lib.cells_of_row hrow2 full.size j _ (by rw [List.take_of_length_le (by rw [Array.length_toList]; exact Nat.le_refl _), hlist]; simp [Lib.byteCells, hx]))
    rw [← Lib.size_eq] at hstr
    have hb : Below w.heap.size w ((w1.setRow w.heap.size full).freeze ⟨w.heap.size, 0, none⟩ s.size) := by
      refine Lib.below_freeze (B := w.heap.size) ?_ (p := ⟨w.heap.size, 0, none⟩) (Nat.le_refl _) _
      refine Below.trans (b := w1) (by rw [← hw1]; exact (Below.refl _ w).alloc (Nat.le_refl _) _) ⟨rfl, rfl, rfl, by simp, fun k hk => setRow_other _ _ _ _ (by omega)⟩
    have Hb := Lib.hid hb
    clear hb hlist hfs hrow hrow2 hne hbs
    subst hw1
    go_enter Try.func90, Try.ntmps90
    go_wp2
    go_ret
    exact ⟨rfl, Hb.out⟩

set_option maxRecDepth 100000 in
theorem clone_any (s : ByteArray) (w : World) (hlim : s.size ≤ 281474976710656) :
    Calls Try.prog 81 #[.string s] w fun e w' => e = .returned (.string s) ∧ Below w.heap.size w w' := by
  go_enter Try.func81, Try.ntmps81
  go_wp2_with (go_at_call 90; refine (inner_clone _ _ hlim).mono ?_; rintro e w' ⟨rfl, hb⟩)
  go_ret
  exact ⟨rfl, hb⟩

def TPost (w : World) (b : Nat) (t l : List UInt8) (e0 : Int) (e : Ending) (w' : World) : Prop :=
  e = .returned (.string ⟨t.toArray⟩) ∧ RdL w' b l e0 ∧ w.grownBy w' (some b)

set_option maxRecDepth 100000 in
/-- T behind its N, by what N left. -/
theorem t_of {w : World} {b n : Nat} {l1 : List UInt8} {e1 : Int} (hm : l1.length ≤ 281474976710656) (hn : n < 9223372036854775808)
    (hN : Calls Try.prog 64 #[.pointer (some ⟨b, 0, none⟩)] w (NPost w b n l1 e1)) :
    Calls Try.prog 68 #[.pointer (some ⟨b, 0, none⟩)] w
      (if e1 = 0 then (if l1.length < n then TPost w b [] [] 5 else TPost w b (l1.take n) (l1.drop n) 0) else TPost w b [] l1 e1) := by
  have HN := Lib.hid hN
  clear hN
  by_cases he : e1 = 0
  · rw [if_pos he]
    subst he
    by_cases hlt : l1.length < n
    · rw [if_pos hlt]
      have hsz : (⟨l1.toArray⟩ : ByteArray).size < n := by rw [mk_size]; exact hlt
      clear hlt
      go_enter Try.func68, Try.ntmps68
      go_wp2_with (first
        | (go_at_call 64; refine (HN.out).mono ?_; rintro e w1 ⟨rfl, h1, h2⟩; have c0 : w1.cell? ⟨b, 0, none⟩ = some (.string ⟨l1.toArray⟩) := Row.at h1 0)
        | (go_at_call 65; refine (err_any h1).mono ?_; rintro e w' ⟨rfl, rfl⟩)
        | (go_at_call 80; refine (fail_any h1 _).mono ?_; rintro e w' ⟨rfl, h3, h4⟩))
      go_ret
      exact ⟨rfl, rd_list h3 rfl, gb_trans h2 h4⟩
    · rw [if_neg hlt]
      have hsz : ¬ (⟨l1.toArray⟩ : ByteArray).size < n := by rw [mk_size]; exact hlt
      have hsz2 : n ≤ (⟨l1.toArray⟩ : ByteArray).size := by omega
      have hsz3 : (⟨l1.toArray⟩ : ByteArray).size ≤ 281474976710656 := by rw [mk_size]; exact hm
      clear hlt hm
      have hn2 : Calls Try.prog 64 #[.pointer (some ⟨b, 0, none⟩)] w (fun e w' => e = .returned (.int .i64 n) ∧ Rd w' b ⟨l1.toArray⟩ 0 ∧ w.grownBy w' (some b)) := HN.out
      have hd : (⟨l1.toArray⟩ : ByteArray).data.toList = l1 := rfl
      have Hd := Lib.hid hd
      have HN2 := Lib.hid hn2
      clear hd hn2 HN
      generalize (⟨l1.toArray⟩ : ByteArray) = r at *
      go_enter Try.func68, Try.ntmps68
      go_wp2_with (first
        | (go_at_call 64; refine (HN2.out).mono ?_; rintro e w1 ⟨rfl, h1, h2⟩; have c0 : w1.cell? ⟨b, 0, none⟩ = some (.string r) := Row.at h1 0)
        | (go_at_call 65; refine (err_any h1).mono ?_; rintro e w' ⟨rfl, rfl⟩)
        | (go_at_call 81; refine (clone_any _ _ (by simp; omega)).mono ?_; rintro e w2 ⟨rfl, hb⟩; have h3 : Rd w2 b r 0 := Row.below h1 hb (Row.inHeap h1); have c2 : w2.cell? ⟨b, 0, none⟩ = some (.string r) := Row.at h3 0; have f2 := Row.free h3 0; have h4 := Row.stored h3 0 (.string (r.extract n r.size))))
      go_ret
      refine ⟨?_, rd_list (r := r.extract n r.size) (by unfold Rd; simpa using h4) (by rw [cut_data, Hd.out]), gb_store (gb_trans h2 (gb_below hb _)) 0 _⟩
      have : r.extract 0 n = ⟨(l1.take n).toArray⟩ := bytes_ext (by rw [Lib.extract_data, Hd.out]; simp)
      show Ending.returned (.string (r.extract 0 n)) = _
      rw [this]
  · rw [if_neg he]
    have hne : (e1 != 0) = true := by simp [he]
    clear he
    go_enter Try.func68, Try.ntmps68
    go_wp2_with (first
      | (go_at_call 64; refine (HN.out).mono ?_; rintro e w' ⟨rfl, h1, h2⟩)
      | (go_at_call 65; refine (err_any h1).mono ?_; rintro e w' ⟨rfl, rfl⟩))
    go_ret
    exact ⟨rfl, h1, h2⟩

set_option maxRecDepth 100000 in
theorem t_any {w : World} {b : Nat} {l : List UInt8} {e0 : Int} (h : RdL w b l e0) (hm : l.length ≤ 281474976710656) :
    Calls Try.prog 68 #[.pointer (some ⟨b, 0, none⟩)] w (TPost w b (stepT l e0).1 (stepT l e0).2.1 (stepT l e0).2.2) := by
  have hN := n_any h hm
  have hff := Leb.first_fits l
  by_cases he : e0 = 0
  · by_cases hf : (Leb.first l).2.2 = 0
    · have hs : stepN l e0 = ((Leb.first l).1, l.drop (Leb.first l).2.1, 0) := by simp [stepN, hf, he]
      rw [hs] at hN
      have ht := t_of (by rw [List.length_drop]; omega) hff.1 hN
      rw [if_pos rfl, List.length_drop] at ht
      by_cases hl : l.length - (Leb.first l).2.1 < (Leb.first l).1
      · rw [if_pos hl] at ht
        have : stepT l e0 = ([], [], 5) := by simp [stepT, he, Leb.second, hf, hl]
        rw [this]; exact ht
      · rw [if_neg hl] at ht
        have : stepT l e0 = ((l.drop (Leb.first l).2.1).take (Leb.first l).1, (l.drop (Leb.first l).2.1).drop (Leb.first l).1, 0) := by
          simp [stepT, he, Leb.second, hf, hl]
        rw [this]; exact ht
    · have hs : stepN l e0 = (0, [], (Leb.first l).2.2) := by simp [stepN, hf, he]
      rw [hs] at hN
      have ht := t_of (by simp) (by omega) hN
      rw [if_neg hf] at ht
      have : stepT l e0 = ([], [], (Leb.first l).2.2) := by simp [stepT, he, Leb.second, hf]
      rw [this]; exact ht
  · have hs : stepN l e0 = (0, l, e0) := by simp [stepN, he]
    rw [hs] at hN
    have ht := t_of hm (by omega) hN
    rw [if_neg he] at ht
    have : stepT l e0 = ([], l, e0) := by simp [stepT, he]
    rw [this]; exact ht
end Go.Proofs.Ytcgplonnhginiaa
/- The package frame as it landed: First. -/
namespace Go.Proofs.Ytcgplonnhginiaa
open Go.ChangeShapes Go.WideShapes Go.ChangeAt Go.RowKit Go.Deep

set_option maxRecDepth 100000 in
theorem stepT_ok (S : List UInt8) (h : (Leb.second S).2.2 = 0) : stepT S 0 = ((Leb.second S).1, S.drop (Leb.second S).2.1, 0) := by simp [stepT, h]
set_option maxRecDepth 100000 in
theorem stepT_bad (S : List UInt8) (h : (Leb.second S).2.2 ≠ 0) : stepT S 0 = ([], [], (Leb.second S).2.2) := by simp [stepT, h]

set_option maxRecDepth 100000 in
set_option maxHeartbeats 1600000 in
/-- Where there is a text at the front. -/
theorem first_some {s t rest four : ByteArray} {k m : Nat} {x : Int} (w : World) (hs : s.size ≤ 200000)
    (hT : ∀ (W : World) (b : Nat), RdL W b s.data.toList 0 → Calls Try.prog 68 #[.pointer (some ⟨b, 0, none⟩)] W fun e w' => e = .returned (.string t) ∧ Rd w' b rest 0 ∧ W.grownBy w' (some b))
    (hC : ∀ W : World, Calls Try.prog 67 #[.string t, .string four] W fun e w' => e = .returned (.int .i64 x) ∧ Below W.heap.size W w')
    (hrest : s.extract k s.size = rest) (hk : k ≤ s.size) (hr : rest.size = s.size - k) (hm : m = min 4 rest.size) (hfour : rest.extract 0 m = four) :
    Calls Try.prog 51 #[.string s] w fun e w' => e = .returned (.tuple (if x = 0 then #[.string t, .int .i64 (k + 4 : Nat), .int .i64 0] else #[.string (mk []), .int .i64 0, .int .i64 x])) ∧ Below w.heap.size w w' := by
  have hsub : (s.size : Int) - (rest.size : Int) = (k : Int) := by omega
  have hk0 : (k : Int) ≤ (s.size : Int) := by omega
  have hrs : (rest.size : Int) ≤ 200000 := by omega
  have hss : (s.size : Int) ≤ 200000 := by omega
  have hmm : m ≤ rest.size := by omega
  have hmi : (m : Int) ≤ (rest.size : Int) := by omega
  have hmin : min (4 : Int) (rest.size : Int) = (m : Int) := by omega
  have hm0 : (0 : Int) ≤ (m : Int) := by omega
  have h5 : (4 : Int) ≤ (rest.size : Int) ∧ m = 4 ∨ (rest.size : Int) < 4 ∧ m = rest.size := by omega
  have HT := Lib.hid hT
  have HC := Lib.hid hC
  clear hT hC hs hr hm
  by_cases hx : x = 0
  · subst hx
    rw [if_pos rfl]
    rcases h5 with ⟨h5, rfl⟩ | ⟨h5, rfl⟩
    all_goals
      go_enter Try.func51, Try.ntmps51
      go_wp2_with (first
        | (go_at_call 63; refine (over_any _ _).mono ?_; rintro e w1 ⟨rfl, h1, hb1⟩)
        | (go_at_call 68; refine (HT.out _ _ h1).mono ?_; rintro e w2 ⟨rfl, h2, hb2⟩)
        | (go_at_call 65; refine (err_any h2).mono ?_; rintro e w' ⟨rfl, rfl⟩)
        | (go_at_call 66; refine (left_any h2).mono ?_; rintro e w' ⟨rfl, rfl⟩)
        | (go_at_call 67; refine (HC.out _).mono ?_; rintro e w3 ⟨rfl, hb3⟩))
      go_ret3
      have z1 := hb1.size
      have z2 := hb2.size
      exact ⟨rfl, (hb1.trans (below_gb hb2 (Nat.le_refl _) z1)).trans (hb3.mono (by omega))⟩
  · rw [if_neg hx]
    have hb : (x != 0) = true := by simp [hx]
    clear hx
    rcases h5 with ⟨h5, rfl⟩ | ⟨h5, rfl⟩
    all_goals
      go_enter Try.func51, Try.ntmps51
      go_wp2_with (first
        | (go_at_call 63; refine (over_any _ _).mono ?_; rintro e w1 ⟨rfl, h1, hb1⟩)
        | (go_at_call 68; refine (HT.out _ _ h1).mono ?_; rintro e w2 ⟨rfl, h2, hb2⟩)
        | (go_at_call 65; refine (err_any h2).mono ?_; rintro e w' ⟨rfl, rfl⟩)
        | (go_at_call 66; refine (left_any h2).mono ?_; rintro e w' ⟨rfl, rfl⟩)
        | (go_at_call 67; refine (HC.out _).mono ?_; rintro e w3 ⟨rfl, hb3⟩))
      go_ret3
      have z1 := hb1.size
      have z2 := hb2.size
      exact ⟨rfl, (hb1.trans (below_gb hb2 (Nat.le_refl _) z1)).trans (hb3.mono (by omega))⟩

set_option maxRecDepth 100000 in
set_option maxHeartbeats 1600000 in
theorem frm_first (HC : CrcOk) (s : ByteArray) (w : World) (hs : s.size ≤ 200000) :
    Calls Try.prog 51 #[.string s] w (FirstIs (Frm.first s.data.toList).1 (Frm.first s.data.toList).2.1 (Frm.first s.data.toList).2.2 w) := by
  have hss : s.data.toList.length = s.size := (Lib.size_eq s).symm
  by_cases he : (Leb.second s.data.toList).2.2 = 0
  · obtain ⟨g1, g2, g3, g4⟩ := Frm.second_only s.data.toList (Leb.second s.data.toList).1 (Leb.second s.data.toList).2.1 (by rw [← he])
    have ht := stepT_ok s.data.toList he
    have hT : ∀ (W : World) (b : Nat), RdL W b s.data.toList 0 → Calls Try.prog 68 #[.pointer (some ⟨b, 0, none⟩)] W fun e w' => e = .returned (.string (mk (Leb.second s.data.toList).1)) ∧ Rd w' b (mk (s.data.toList.drop (Leb.second s.data.toList).2.1)) 0 ∧ W.grownBy w' (some b) := by
      intro W b hW
      have := t_any hW (by omega)
      rw [ht] at this
      exact this
    have hlt : (Leb.second s.data.toList).1.length ≤ 200000 := by omega
    have hC := fun (four : ByteArray) (W : World) => HC.check (mk (Leb.second s.data.toList).1) four W (by rw [mk_len]; omega)
    have hrest : s.extract (Leb.second s.data.toList).2.1 s.size = mk (s.data.toList.drop (Leb.second s.data.toList).2.1) := bytes_ext (by rw [Lib.extract_data, mk_data, ← hss, ← List.length_drop, List.take_length])
    have hfour : (mk (s.data.toList.drop (Leb.second s.data.toList).2.1)).extract 0 (min 4 (mk (s.data.toList.drop (Leb.second s.data.toList).2.1)).size) = mk ((s.data.toList.drop (Leb.second s.data.toList).2.1).take 4) := bytes_ext (by
      rw [Lib.extract_data, mk_data, mk_data, mk_len, List.drop_zero, Nat.sub_zero]
      rcases Nat.le_total 4 (s.data.toList.drop (Leb.second s.data.toList).2.1).length with h | h
      · rw [Nat.min_eq_left h]
      · rw [Nat.min_eq_right h, List.take_length, List.take_of_length_le h])
    have hlen : (mk (s.data.toList.drop (Leb.second s.data.toList).2.1)).size = s.size - (Leb.second s.data.toList).2.1 := by rw [mk_len, List.length_drop, hss]
    refine (first_some w hs hT (hC _) hrest (by omega) hlen rfl hfour).mono ?_
    rintro e w' ⟨rfl, hb⟩
    refine ⟨?_, hb⟩
    have hcheck : checkOf (mk (Leb.second s.data.toList).1) (mk ((s.data.toList.drop (Leb.second s.data.toList).2.1).take 4)) = if s.data.toList.length - (Leb.second s.data.toList).2.1 < 4 then 5 else if (s.data.toList.drop (Leb.second s.data.toList).2.1).take 4 = Frm.sumOf (Leb.second s.data.toList).1 then 0 else 7 := by
      unfold checkOf
      rw [mk_len, mk_data, mk_data, List.length_take, List.length_drop]
      by_cases h4 : s.data.toList.length - (Leb.second s.data.toList).2.1 < 4
      · rw [if_neg (by omega), if_pos h4]
      · rw [if_pos (by omega), if_neg h4]
        rfl
    rw [hcheck]
    unfold Frm.first
    rw [if_pos he]
    by_cases h4 : s.data.toList.length - (Leb.second s.data.toList).2.1 < 4
    · rw [if_pos h4, if_pos h4]
      rfl
    · rw [if_neg h4, if_neg h4]
      by_cases hq : (s.data.toList.drop (Leb.second s.data.toList).2.1).take 4 = Frm.sumOf (Leb.second s.data.toList).1
      · rw [if_pos hq, if_pos hq]
        rfl
      · rw [if_neg hq, if_neg hq]
        rfl
  · have hfin : Hid (Frm.first s.data.toList = ([], 0, (Leb.second s.data.toList).2.2)) := by
      unfold Frm.first
      rw [if_neg he]; rfl
    have hb : ((Leb.second s.data.toList).2.2 != 0) = true := by simp [he]
    have ht := stepT_bad s.data.toList he
    have hT : Hid (∀ (W : World) (b : Nat), RdL W b s.data.toList 0 → Calls Try.prog 68 #[.pointer (some ⟨b, 0, none⟩)] W fun e w' => e = .returned (.string (mk [])) ∧ Rd w' b (mk []) (Leb.second s.data.toList).2.2 ∧ W.grownBy w' (some b)) := Lib.hid (by
      intro W b hW
      have := t_any hW (by omega)
      rw [ht] at this
      exact this)
    clear ht he
    generalize (Leb.second s.data.toList).2.2 = x at *
    go_enter Try.func51, Try.ntmps51
    go_wp2_with (first
      | (go_at_call 63; refine (over_any _ _).mono ?_; rintro e w1 ⟨rfl, h1, hb1⟩)
      | (go_at_call 68; refine (hT.out _ _ h1).mono ?_; rintro e w2 ⟨rfl, h2, hb2⟩)
      | (go_at_call 65; refine (err_any h2).mono ?_; rintro e w' ⟨rfl, rfl⟩))
    go_ret3
    have z1 := hb1.size
    exact ⟨by rw [hfin.out]; rfl, hb1.trans (below_gb hb2 (Nat.le_refl _) z1)⟩
end Go.Proofs.Ytcgplonnhginiaa
/- The package frame as it landed: Read; a text laid into a block of its own and appended. -/
namespace Go.Proofs.Ytcgplonnhginiaa
open Go.ChangeShapes Go.WideShapes Go.ChangeAt Go.RowKit Go.Deep

set_option maxRecDepth 100000 in
theorem gb_undrew {a w : World} {r : Option Nat} (h : a.drew.grownBy w r) : a.grownBy w r := ⟨h.os, h.tape, h.output, h.size, h.block⟩

set_option maxRecDepth 100000 in
/-- A text laid into a block of its own and appended, in a region that draws its order. -/
theorem step_text {ops : Array Oper} {o : Oper} {a : Act} {base : Nat} {wr : World} {K : Act → World → Prop} {Q : Exit → Act → World → Prop} {E : Prop} (hgd : o.guard = none) (s x : Operand)
    (ho : o.op = .call { callee := .builtin .append, args := #[s, x], argTypes := #[30, 30] })
    (v : Value) (k : Nat) (q : ByteArray) (xs : List Value) (hs : a.eval s = v) (hx : a.eval x = .slice (some ⟨wr.heap.size, 0, none⟩) 1 1)
    (hown : wr.ownsRow base 9 1 v k xs) (hbase : base ≤ wr.heap.size) (hk : k + 1 ≤ 8796093022207)
    (h : ∀ v' w', w'.ownsRow base 9 1 v' (k + 1) (xs ++ [.string q]) → (wr.alloc (.cells #[.string q] 9)).drew.grownBy w' v.ownBlock → K (a.put o.dst v') w') :
    if Region.wanted o (yielded ops a.tmps) = true then Oper.wp Try.prog o a (wr.alloc (.cells #[.string q] 9)).drew K Q else E := by
  obtain ⟨i0, hi, hz0, hz1, hz2⟩ := info_parts strInfo
  refine step_append_lies _ hgd s x _ ho base 9 i0 (.string ⟨#[]⟩) 1 16 Try.underlying30 hi hz0 hz1 hz2 rfl (by decide) v k xs hs (hown.alloc _).drew ⟨wr.heap.size, 0, none⟩ 1 1 [.string q] hx (by rfl) (World.news_of_block (cs := #[.string q]) (t := 9) (fr := (0, 0)) (heap_alloc_new wr _)) (by simp [Value.oneCell']) (by decide) (by unfold maxLen; omega) (by omega) (Nat.le_trans hbase (by simp)) _ rfl ?_
  intro g2 cap2 w2 hown2 hg2 _ _
  exact h _ _ hown2 hg2

set_option maxRecDepth 100000 in
set_option maxHeartbeats 1600000 in
theorem frm_read (HC : CrcOk) (s : ByteArray) (w : World) (hs : s.size ≤ 200000) :
    Calls Try.prog 32 #[.string s] w fun e w' => ∃ v, e = .returned (.tuple #[v, .int .i64 (Frm.read s.data.toList).2]) ∧ Cells w' (NewIn w w') v (texts (Frm.read s.data.toList).1) ∧ Below w.heap.size w w' := by
  obtain ⟨S, rfl⟩ : ∃ S, s = mk S := ⟨_, (mk_of s).symm⟩
  rw [mk_data]
  rw [mk_len] at hs
  go_enter Try.func32, Try.ntmps32
  go_wp2_with fail
  go_loopw [0, 4] (fun o v wr => ∃ (d : List (List UInt8)) (r : List UInt8), o = .string (mk r) ∧ Rest S d r ∧ TextsOwn w d v wr) (fun o _ _ => sizeIn o)
  case atStart => exact ⟨[], S, rfl, rest_start S, texts_start w⟩
  case round =>
    obtain ⟨d, r, rfl, hrest, hown⟩ := hrel
    by_cases hr : r = []
    · subst hr
      have hfin := Lib.hid (rest_end hrest)
      have Hown := Lib.hid hown
      have hb : ((mk []).toList != []) = false := by rw [Lib.toList_data]; rfl
      have hb2 : (mk []).toList.isEmpty = true := by rw [Lib.toList_data]; rfl
      clear hown hrest
      go_wp2_with fail
      go_ret2
      exact ⟨u4, by rw [hfin.out]; rfl, by rw [hfin.out]; exact Hown.out.cells, Hown.out.2⟩
    · have hr0 : 0 < r.length := List.length_pos_iff.2 hr
      have hrl := hrest.1
      have hne : (mk r).toList.isEmpty = false := by
        rw [List.isEmpty_eq_false_iff, Lib.toList_data, mk_data]; exact hr
      have hne2 : ((mk r).toList != []) = true := by
        rw [bne_iff_ne, Lib.toList_data, mk_data]; exact hr
      have hfrm := fun W => frm_first HC (mk r) W (by rw [mk_len]; omega)
      rw [mk_data] at hfrm
      by_cases hx : (Frm.first r).2.2 = 0
      · obtain ⟨-, hn, hrr, -⟩ := Frm.first_only r (Frm.first r).1 (Frm.first r).2.1 (by rw [← hx])
        have hnl : (Frm.first r).2.1 ≤ r.length := by
          have e := congrArg List.length hrr
          rw [List.length_append, List.length_drop, ← hn] at e
          omega
        have hstep := Lib.hid (rest_step hrest hr hx)
        have hn5 := (Frm.first_only r (Frm.first r).1 (Frm.first r).2.1 (by rw [← hx])).2.2.2
        have hcut : Hid ((mk r).extract (Frm.first r).2.1 (mk r).size = mk (r.drop (Frm.first r).2.1)) := bytes_ext (by
          rw [Lib.extract_data, mk_data, mk_len, mk_data, ← List.length_drop, List.take_length])
        have hnl2 : ((Frm.first r).2.1 : Int) ≤ ((mk r).size : Int) := by rw [mk_len]; omega
        have hmeas : Hid ((mk (r.drop (Frm.first r).2.1)).size < (mk r).size) := Lib.hid (by rw [mk_len, mk_len, List.length_drop]; omega)
        have hdl : Hid (d.length ≤ 200000) := Lib.hid (by omega)
        have hrz : ((mk r).size : Int) ≤ 200000 := by rw [mk_len]; omega
        rw [hx] at hfrm
        have HF := Lib.hid hfrm
        clear hfrm hn hrr hnl hx hn5 hrest hr hr0 hrl
        generalize (Frm.first r).1 = t at *
        generalize (Frm.first r).2.1 = n at *
        generalize hy2 : mk (r.drop n) = y2 at *
        generalize mk r = y at *
        generalize hxx : mk t = x at *
        go_wp2_with fail
        refine (HF.out wr).mono ?_
        rintro e w1 ⟨rfl, h1⟩
        rw [hxx]
        have hown1 := hown.below h1
        have Hown1 := Lib.hid hown1
        have hz := hown1.2.size
        have hown1 := hown1.1
        have hk1 : d.length + 1 ≤ 8796093022207 := by have := hdl.out; omega
        clear h1 hown
        go_wp2_with fail
        go_region_law (first
          | (refine step_text (by rfl) _ _ (by rfl) _ _ x _ (by rfl) (by rfl) hown1 hz hk1 ?_
             intro v2 w2 hown2 hg2))
        all_goals
          have hnew := texts_more Hown1.out (x := t) (v' := v2) (by rw [hxx]; exact hown2) (gb_undrew hg2)
          simp only [Act.put, List.getElem_toArray, List.getElem_cons_zero, List.getElem_cons_succ, List.setIfInBounds_toArray, List.set_cons_zero, List.set_cons_succ]
          go_wp2_with fail
          refine ⟨⟨_, r.drop n, by rw [hcut.out, hy2], hstep.out, hnew⟩, ?_⟩
          rw [hcut.out]; exact hmeas.out
      · have hfin := Lib.hid (rest_bad hrest hr hx)
        have hb2 : ((Frm.first r).2.2 != 0) = true := by simp [hx]
        have HF := Lib.hid hfrm
        have Hown := Lib.hid hown
        clear hfrm hown hrest hr hr0 hrl
        generalize (Frm.first r).2.2 = x at *
        generalize (Frm.first r).1 = t at *
        generalize (Frm.first r).2.1 = n at *
        generalize mk r = y at *
        go_wp2_with fail
        refine (HF.out wr).mono ?_
        rintro e w1 ⟨rfl, h1⟩
        have h1 := Lib.hid h1
        go_wp2_with fail
        go_ret2
        exact ⟨.slice none 0 0, by rw [hfin.out]; rfl, by rw [hfin.out]; exact Cells.none _ _, Hown.out.2.trans (h1.out.mono Hown.out.2.size)⟩
end Go.Proofs.Ytcgplonnhginiaa
