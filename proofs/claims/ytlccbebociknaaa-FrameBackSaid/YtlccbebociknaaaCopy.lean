/- A text is copied by the library's Clone: the same bytes, in new memory; the reader's T. -/
import Derived.Test.YtlccbebociknaaaLayA
namespace Go.Proofs.Ytlccbebociknaaa
open Go.RowKit


theorem byteCellsOf : Try.prog.cellsOf 5 = 1 := by kernel_rfl

set_option maxHeartbeats 1000000 in
theorem inner_clone (s : ByteArray) (w : World) (hlim : s.size ≤ 281474976710656) :
    Calls Try.prog 44 #[.string s] w fun e w' => e = .returned (.string s) ∧ Below w.heap.size w w' := by
  rcases Nat.eq_zero_or_pos s.size with hz | hpos
  · obtain rfl : s = ⟨#[]⟩ := ByteArray.ext (Array.eq_empty_of_size_eq_zero hz)
    clear hz
    go_enter Try.func44, Try.ntmps44
    go_wp2
    go_ret
    exact ⟨rfl, Below.refl _ _⟩
  · obtain ⟨info, hinfo, hzero, hsize, hbytes⟩ := info_parts byteInfo
    -- the row that is made, by a name of its own
    obtain ⟨blank, hblank⟩ : ∃ blank, blank = madeCells (Value.int .u8 0).cells (((s.size : Nat) : Int).toNat * info.size) := ⟨_, rfl⟩
    have hmake : ∀ V : World, (Instr.makeSlice 38 (.int .i64 (s.size : Int)) (.int .i64 (s.size : Int))).run Try.prog V = .ok (.slice (some ⟨V.heap.size, 0, none⟩) s.size s.size) (V.alloc (.cells blank 5)) := by
      intro V
      have := run_make (P := Try.prog) V 38 5 info (.int .u8 0) Try.underlying38 hinfo hzero .i64 .i64 (s.size : Int) (s.size : Int) (by omega) (by omega) (by rw [hbytes]; omega) (by omega)
      rw [← hblank] at this
      simpa using this
    have hbs : blank.size = s.size := by rw [hblank, size_madeCells, hsize]; simp
    clear hblank
    generalize hw1 : w.alloc (.cells blank 5) = w1
    have hrow : w1.heap[w.heap.size]? = some (.cells blank 5 (0, 0)) := by rw [← hw1]; exact heap_alloc_new w _
    have hcopy := Lib.run_copy_row_string (P := Try.prog) w1 38 9 3 5 w.heap.size 0 s.size s.size s blank 5 Try.underlying38
      (by rw [hinfo]; simp [hsize]) hrow (Nat.le_refl _) (by omega)
    obtain ⟨full, hfull⟩ : ∃ full, full = (blank.toList.take 0 ++ Lib.byteCells s.data.toList ++ blank.toList.drop (0 + s.size)).toArray := ⟨_, rfl⟩
    rw [← hfull] at hcopy
    have hlist : full.toList = Lib.byteCells s.data.toList := by
      rw [hfull]
      simp only [List.take_zero, List.nil_append, Nat.zero_add]
      rw [List.drop_of_length_le (by rw [Array.length_toList]; omega), List.append_nil]
    have hfs : full.size = s.size := by rw [← Array.length_toList, hlist, Lib.byteCells_length, ← Lib.size_eq]
    clear hfull
    have hrow2 : (w1.setRow w.heap.size full).heap[w.heap.size]? = some (.cells full 5 (0, 0)) := setRow_heap _ _ blank _ _ _ hrow
    have hne : s.data.toList ≠ [] := by
      intro h
      have := Lib.size_eq s
      rw [h] at this
      simp only [List.length_nil] at this
      omega
    have hstr := Lib.run_unsafeString_row (P := Try.prog) (w1.setRow w.heap.size full) 80 3 9 5 Try.underlying80 byteCellsOf w.heap.size full.size
      (by unfold World.shape?; rw [hrow2]) s.data.toList hne (by rw [← Lib.size_eq]; omega) (by rw [← Lib.size_eq]; omega)
      (fun j x hx => Lib.cells_of_row hrow2 full.size j _ (by rw [List.take_of_length_le (by rw [Array.length_toList]; exact Nat.le_refl _), hlist]; simp [Lib.byteCells, hx]))
    rw [← Lib.size_eq] at hstr
    have hb : Below w.heap.size w ((w1.setRow w.heap.size full).freeze ⟨w.heap.size, 0, none⟩ s.size) := by
      refine Lib.below_freeze (B := w.heap.size) ?_ (p := ⟨w.heap.size, 0, none⟩) (Nat.le_refl _) _
      refine Below.trans (b := w1) (by rw [← hw1]; exact (Below.refl _ w).alloc (Nat.le_refl _) _) ⟨rfl, rfl, rfl, by simp, fun k hk => setRow_other _ _ _ _ (by omega)⟩
    have Hb := Lib.hid hb
    clear hb hlist hfs hrow hrow2 hne hbs
    subst hw1
    go_enter Try.func44, Try.ntmps44
    go_wp2
    go_ret
    exact ⟨rfl, Hb.out⟩

theorem clone_any (s : ByteArray) (w : World) (hlim : s.size ≤ 281474976710656) :
    Calls Try.prog 36 #[.string s] w fun e w' => e = .returned (.string s) ∧ Below w.heap.size w w' := by
  go_enter Try.func36, Try.ntmps36
  go_wp2_with (go_at_call 44; refine (inner_clone _ _ hlim).mono ?_; rintro e w' ⟨rfl, hb⟩)
  go_ret
  exact ⟨rfl, hb⟩

def TPost (w : World) (b : Nat) (t l : List UInt8) (e0 : Int) (e : Ending) (w' : World) : Prop :=
  e = .returned (.string ⟨t.toArray⟩) ∧ RdL w' b l e0 ∧ w.grownBy w' (some b)

/-- T behind its N, by what N left. -/
theorem t_of {w : World} {b n : Nat} {l1 : List UInt8} {e1 : Int} (hm : l1.length ≤ 281474976710656) (hn : n < 9223372036854775808)
    (hN : Calls Try.prog 34 #[.pointer (some ⟨b, 0, none⟩)] w (NPost w b n l1 e1)) :
    Calls Try.prog 22 #[.pointer (some ⟨b, 0, none⟩)] w
      (if e1 = 0 then (if l1.length < n then TPost w b [] [] 5 else TPost w b (l1.take n) (l1.drop n) 0) else TPost w b [] l1 e1) := by
  have HN := Lib.hid hN
  clear hN
  by_cases he : e1 = 0
  · rw [if_pos he]
    subst he
    by_cases hlt : l1.length < n
    · rw [if_pos hlt]
      have hsz : (⟨l1.toArray⟩ : ByteArray).size < n := by rw [mk_size]; exact hlt
      clear hlt
      go_enter Try.func22, Try.ntmps22
      go_wp2_with (first
        | (go_at_call 34; refine (HN.out).mono ?_; rintro e w1 ⟨rfl, h1, h2⟩; have c0 : w1.cell? ⟨b, 0, none⟩ = some (.string ⟨l1.toArray⟩) := Row.at h1 0)
        | (go_at_call 23; refine (err_any h1).mono ?_; rintro e w' ⟨rfl, rfl⟩)
        | (go_at_call 35; refine (fail_any h1 _).mono ?_; rintro e w' ⟨rfl, h3, h4⟩))
      go_ret
      exact ⟨rfl, rd_list h3 rfl, gb_trans h2 h4⟩
    · rw [if_neg hlt]
      have hsz : ¬ (⟨l1.toArray⟩ : ByteArray).size < n := by rw [mk_size]; exact hlt
      have hsz2 : n ≤ (⟨l1.toArray⟩ : ByteArray).size := by omega
      have hsz3 : (⟨l1.toArray⟩ : ByteArray).size ≤ 281474976710656 := by rw [mk_size]; exact hm
      clear hlt hm
      have hn2 : Calls Try.prog 34 #[.pointer (some ⟨b, 0, none⟩)] w (fun e w' => e = .returned (.int .i64 n) ∧ Rd w' b ⟨l1.toArray⟩ 0 ∧ w.grownBy w' (some b)) := HN.out
      have hd : (⟨l1.toArray⟩ : ByteArray).data.toList = l1 := rfl
      have Hd := Lib.hid hd
      have HN2 := Lib.hid hn2
      clear hd hn2 HN
      generalize (⟨l1.toArray⟩ : ByteArray) = r at *
      go_enter Try.func22, Try.ntmps22
      go_wp2_with (first
        | (go_at_call 34; refine (HN2.out).mono ?_; rintro e w1 ⟨rfl, h1, h2⟩; have c0 : w1.cell? ⟨b, 0, none⟩ = some (.string r) := Row.at h1 0)
        | (go_at_call 23; refine (err_any h1).mono ?_; rintro e w' ⟨rfl, rfl⟩)
        | (go_at_call 36; refine (clone_any _ _ (by simp; omega)).mono ?_; rintro e w2 ⟨rfl, hb⟩; have h3 : Rd w2 b r 0 := Row.below h1 hb (Row.inHeap h1); have c2 : w2.cell? ⟨b, 0, none⟩ = some (.string r) := Row.at h3 0; have f2 := Row.free h3 0; have h4 := Row.stored h3 0 (.string (r.extract n r.size))))
      go_ret
      refine ⟨?_, rd_list (r := r.extract n r.size) (by unfold Rd; simpa using h4) (by rw [cut_data, Hd.out]), gb_store (gb_trans h2 (gb_below hb _)) 0 _⟩
      have : r.extract 0 n = ⟨(l1.take n).toArray⟩ := bytes_ext (by rw [Lib.extract_data, Hd.out]; simp)
      show Ending.returned (.string (r.extract 0 n)) = _
      rw [this]
  · rw [if_neg he]
    have hne : (e1 != 0) = true := by simp [he]
    clear he
    go_enter Try.func22, Try.ntmps22
    go_wp2_with (first
      | (go_at_call 34; refine (HN.out).mono ?_; rintro e w' ⟨rfl, h1, h2⟩)
      | (go_at_call 23; refine (err_any h1).mono ?_; rintro e w' ⟨rfl, rfl⟩))
    go_ret
    exact ⟨rfl, h1, h2⟩

theorem t_any {w : World} {b : Nat} {l : List UInt8} {e0 : Int} (h : RdL w b l e0) (hm : l.length ≤ 281474976710656) :
    Calls Try.prog 22 #[.pointer (some ⟨b, 0, none⟩)] w (TPost w b (stepT l e0).1 (stepT l e0).2.1 (stepT l e0).2.2) := by
  have hN := n_any h hm
  have hff := Leb.first_fits l
  by_cases he : e0 = 0
  · by_cases hf : (Leb.first l).2.2 = 0
    · have hs : stepN l e0 = ((Leb.first l).1, l.drop (Leb.first l).2.1, 0) := by simp [stepN, hf, he]
      rw [hs] at hN
      have ht := t_of (by rw [List.length_drop]; omega) hff.1 hN
      rw [if_pos rfl, List.length_drop] at ht
      by_cases hl : l.length - (Leb.first l).2.1 < (Leb.first l).1
      · rw [if_pos hl] at ht
        have : stepT l e0 = ([], [], 5) := by simp [stepT, he, Leb.second, hf, hl]
        rw [this]; exact ht
      · rw [if_neg hl] at ht
        have : stepT l e0 = ((l.drop (Leb.first l).2.1).take (Leb.first l).1, (l.drop (Leb.first l).2.1).drop (Leb.first l).1, 0) := by
          simp [stepT, he, Leb.second, hf, hl]
        rw [this]; exact ht
    · have hs : stepN l e0 = (0, [], (Leb.first l).2.2) := by simp [stepN, hf, he]
      rw [hs] at hN
      have ht := t_of (by simp) (by omega) hN
      rw [if_neg hf] at ht
      have : stepT l e0 = ([], [], (Leb.first l).2.2) := by simp [stepT, he, Leb.second, hf]
      rw [this]; exact ht
  · have hs : stepN l e0 = (0, l, e0) := by simp [stepN, he]
    rw [hs] at hN
    have ht := t_of hm (by omega) hN
    rw [if_neg he] at ht
    have : stepT l e0 = ([], l, e0) := by simp [stepT, he]
    rw [this]; exact ht
end Go.Proofs.Ytlccbebociknaaa
