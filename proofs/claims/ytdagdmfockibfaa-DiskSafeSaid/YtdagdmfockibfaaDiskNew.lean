/- The landed disk: a disk is made. -/
import Derived.Test.YtdagdmfockibfaaDiskRead
import Derived.Laws.MakeOwn
set_option linter.unusedSimpArgs false
set_option linter.unusedVariables false
namespace Go.Proofs.Ytdagdmfockibfaa
open Go.RowKit Dsk

set_option maxRecDepth 100000 in
theorem new_no (n : Int) (w : World) (h : n < 1 ∨ 4096 < n) : Calls Try.prog 6 #[.int .i64 n] w fun e w' => e = .returned (.tuple #[.pointer none, .int .i64 2]) ∧ Below w.heap.size w w' := by
  rcases h with h | h
  · go_enter Try.func6, Try.ntmps6
    go_wp2_with fail
    go_ret2
    exact ⟨rfl, Below.refl _ _⟩
  · have h' : decide (n < 1) = false := by simp; omega
    go_enter Try.func6, Try.ntmps6
    go_wp2_with fail
    go_ret2
    exact ⟨rfl, Below.refl _ _⟩

theorem zeros (n : Nat) : madeCells (secV (fill ⟨#[]⟩)).toArray (n * 64) = (secs (List.replicate n (fill ⟨#[]⟩))).toArray := by
  have h64 : All64 (List.replicate n (fill ⟨#[]⟩)) := fun s hs => by rw [List.eq_of_mem_replicate hs]; exact fill_nil
  have hl : (secV (fill ⟨#[]⟩)).length = 64 := by rw [secV_len, fill_nil]
  apply Array.ext_getElem?
  intro i
  by_cases hi : i < n * 64
  · have e1 : (madeCells (secV (fill ⟨#[]⟩)).toArray (n * 64))[i]? = (secV (fill ⟨#[]⟩))[i % 64]? := by
      unfold madeCells
      rw [Array.getElem?_map, Array.getElem?_eq_getElem (by simpa using hi)]
      simp [hl, Nat.mod_lt]
    have hk : (List.replicate n (fill ⟨#[]⟩))[i / 64]? = some (fill ⟨#[]⟩) := by rw [List.getElem?_replicate, if_pos (by omega)]
    have e2 := secs_get h64 (i / 64) _ hk (i % 64) (by omega)
    rw [show i / 64 * 64 + i % 64 = i by omega] at e2
    rw [e1, List.getElem?_toArray, e2]
  · rw [Array.getElem?_eq_none (by rw [size_madeCells]; omega), Array.getElem?_eq_none (by rw [List.size_toArray, secs_len h64, List.length_replicate]; omega)]

theorem new_heads (n : Nat) : heads (new n).S = List.replicate n (fill ⟨#[]⟩) := by simp [heads, new, List.map_replicate]

theorem new_at (w : World) (n : Nat) (h1 : 1 ≤ n) (h2 : n ≤ 4096) :
    DAt (((w.alloc (.cells (secs (List.replicate n (fill ⟨#[]⟩))).toArray 71)).alloc (.map #[] 0)).alloc (.cells (dcells (.slice (some ⟨w.heap.size, 0, none⟩) n n) (w.heap.size + 1) (new n)) 61))
      (New w (((w.alloc (.cells (secs (List.replicate n (fill ⟨#[]⟩))).toArray 71)).alloc (.map #[] 0)).alloc (.cells (dcells (.slice (some ⟨w.heap.size, 0, none⟩) n n) (w.heap.size + 1) (new n)) 61)))
      (w.heap.size + 2) (w.heap.size + 1) (.slice (some ⟨w.heap.size, 0, none⟩) n n) 0 (.map []) (fun _ => .slice none 0 0) (new n) := by
  have h64 : All64 (List.replicate n (fill ⟨#[]⟩)) := fun s hs => by rw [List.eq_of_mem_replicate hs]; exact fill_nil
  have hone : ∀ (k : Nat) (l : List ByteArray), (new n).S[k]? = some l → l = [fill ⟨#[]⟩] := fun k l hl => List.eq_of_mem_replicate (List.mem_of_getElem? hl)
  have e1 : (w.alloc (.cells (secs (List.replicate n (fill ⟨#[]⟩))).toArray 71)).heap.size = w.heap.size + 1 := by simp
  have e2 : ((w.alloc (.cells (secs (List.replicate n (fill ⟨#[]⟩))).toArray 71)).alloc (.map #[] 0)).heap.size = w.heap.size + 2 := by simp
  generalize hw1 : w.alloc (.cells (secs (List.replicate n (fill ⟨#[]⟩))).toArray 71) = w1 at *
  have hown : OwnS w1 (.slice (some ⟨w.heap.size, 0, none⟩) n n) (List.replicate n (fill ⟨#[]⟩)) := by
    refine ⟨?_, h64⟩
    rw [List.length_replicate, ← hw1]
    have := World.ownsRow_lit (e := 71) (size := 64) (base := 0) w (secs (List.replicate n (fill ⟨#[]⟩))).toArray n (Nat.zero_le _) (by unfold maxLen; omega) (by rw [List.size_toArray, secs_len h64, List.length_replicate])
    simpa using this
  have hmap : (w1.alloc (.map #[] 0)).ownsMap Try.prog 3 rawElem (w.heap.size + 1) 0 (.map []) := by
    have := World.ownsMap_made w1 Try.prog 3 rawElem
    rw [e1] at this
    exact this
  generalize hw2 : w1.alloc (.map #[] 0) = w2 at *
  have hsz : ∀ o, (w2.alloc o).heap.size = w.heap.size + 3 := fun o => by simp [e2]
  refine
    { blk := ?_, safe := ?_, pos := ?_, few := ?_, map := hmap.alloc _, big := Nat.le_refl _, keys := (fun kl h => by cases h), has := fun k l hl => ?_, val := fun k l hl hp => ?_, full := fun l hl => ?_, all64 := fun l hl => ?_
      apart := fun j k l m g hl hp => ?_, inB := ⟨by omega, by rw [hsz]; omega⟩, inM := ⟨by omega, by rw [hsz]; omega⟩, inS := fun g hg => ?_, inP := fun k l g hl hp => ?_ }
  · have := Row.made w2 61 (dcells (.slice (some ⟨w.heap.size, 0, none⟩) n n) (w.heap.size + 1) (new n))
    rw [e2] at this
    exact this
  · rw [new_heads]
    have k1 : Kept (fun _ => False) w1 w2 := by rw [← hw2]; exact (Kept.refl _ _).alloc _
    exact (hown.kept k1 (fun _ _ h => h)).kept ((Kept.refl (fun _ => False) w2).alloc _) (fun _ _ h => h)
  · show 0 < (List.replicate n _).length
    rw [List.length_replicate]; omega
  · show (List.replicate n _).length ≤ 4096
    rw [List.length_replicate]; omega
  · rw [hone k l hl]; rfl
  · rw [hone k l hl] at hp; simp at hp
  · rw [List.eq_of_mem_replicate hl]; exact Nat.zero_lt_one
  · rw [List.eq_of_mem_replicate hl]
    intro s hs
    rw [List.mem_singleton.1 hs]; exact fill_nil
  · rw [hone j l hl] at hp; simp at hp
  · have : w.heap.size = g := by injection hg
    subst this
    exact ⟨⟨Nat.le_refl _, by rw [hsz]; omega⟩, by omega⟩
  · rw [hone k l hl] at hp; simp at hp

set_option maxRecDepth 100000 in
theorem new_ok (n : Nat) (w : World) (h1 : 1 ≤ n) (h2 : n ≤ 4096) : Calls Try.prog 6 #[.int .i64 (n : Int)] w fun e w' => ∃ v, e = .returned (.tuple #[v, .int .i64 0]) ∧ At w' (New w w') v (Dsk.new n) ∧ Below w.heap.size w w' := by
  obtain ⟨i0, hi, hz0, hz1, hz2⟩ := info_parts secInfo3
  have hat := new_at w n h1 h2
  have Hat := Lib.hid hat
  have hmk : ∀ W : World, (Instr.makeSlice 58 (.int .i64 (n : Int)) (.int .i64 (n : Int))).run Try.prog W = .ok (.slice (some ⟨W.heap.size, 0, none⟩) n n) (W.alloc (.cells (secs (List.replicate n (fill ⟨#[]⟩))).toArray 71)) := fun W => by
    have hr := run_make (P := Try.prog) W 58 71 i0 _ Try.underlying58 hi hz0 .i64 .i64 n n (by omega) (by omega) (by rw [hz2]; omega) (by omega)
    simp only [Int.toNat_natCast] at hr
    rw [hr, hz1]
    show Result.ok _ (W.alloc (.cells (madeCells (secV (fill ⟨#[]⟩)).toArray (n * 64)) _)) = _
    rw [zeros]
  have hmm := @run_makeMap Try.prog
  have b1 : decide ((n : Int) < 1) = false := by simp; omega
  have b2 : decide ((n : Int) > 4096) = false := by simp; omega
  have Hbel : Hid (∀ o1 o2 o3, Below w.heap.size w (((w.alloc o1).alloc o2).alloc o3)) := Lib.hid (fun o1 o2 o3 => (((Below.refl _ _).alloc (Nat.le_refl _) _).alloc (by simp) _).alloc (by simp; omega) _)
  clear hat hi hz0 hz1 hz2
  go_enter Try.func6, Try.ntmps6
  go_wp2_with fail
  go_ret2
  exact ⟨_, rfl, ⟨_, _, _, _, _, _, rfl, Hat.out⟩, Hbel.out _ _ _⟩
end Go.Proofs.Ytdagdmfockibfaa
