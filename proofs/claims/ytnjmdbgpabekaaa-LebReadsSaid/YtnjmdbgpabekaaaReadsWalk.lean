/- The walk of LebReads: any bytes, read as numbers and texts. -/
import Derived.Test.YtnjmdbgpabekaaaReads
namespace Go.Proofs.Ytnjmdbgpabekaaa
open Go.RowKit

set_option maxRecDepth 100000 in
set_option maxHeartbeats 3200000 in
theorem reads_walk {w : World} {A : Option Addr} {len cap : Nat} {s : ByteArray} {l : List Bool} (hin : BoolsIn w A len l) (hs : s.size ≤ 281474976710656) (hl63 : len ≤ 9223372036854775807) :
    Calls Try.prog 4 #[.string s, .slice A len cap] w fun e w' => e = .returned (.bool true) ∧ Below w.heap.size w w' := by
  have Hin := Lib.hid hin
  have hl63i : (len : Int) ≤ 9223372036854775807 := by omega
  clear hin hl63
  go_enter Try.func4, Try.ntmps4
  go_wp2_with (go_at_call 11; refine (over_any _ _).mono ?_; rintro e w1 ⟨rfl, hr1, hb1⟩)
  have hat1 : At w1 w.heap.size s 0 0 := ⟨Nat.zero_le _, by rw [if_pos rfl, List.drop_zero]; exact hr1⟩
  go_loopw [6, 7, 8] (fun x y i wr => ∃ (k a : Nat) (e : Int), k ≤ len ∧ k ≤ 60 ∧ x = .int .i64 a ∧ y = .int .i64 e ∧ i = .int .i64 k ∧ At wr w.heap.size s a e ∧ Below w.heap.size w wr) (fun _ _ i _ => 60 - (intOf i).toNat)
  case atStart => exact ⟨0, 0, 0, Nat.zero_le _, by omega, rfl, rfl, rfl, hat1, hb1⟩
  case round =>
    obtain ⟨k, a, e, hk, hk60, rfl, rfl, rfl, hat, hbel⟩ := hrel
    have hwz : w.heap.size ≤ wr.heap.size := hbel.size
    have ha : (a : Int) ≤ (s.size : Int) := by have := hat.1; omega
    have hs63 : (s.size : Int) ≤ 281474976710656 := by omega
    have Hbel := Lib.hid hbel
    clear hr1 hb1 hat1
    by_cases hlt : k < len ∧ k < 60
    · obtain ⟨hlt1, hlt2⟩ := hlt
      obtain ⟨hll, hmem⟩ := Hin.out
      obtain ⟨bl, off, hA, hbl, hcells⟩ := hmem (by omega)
      subst hA
      obtain ⟨lb, hlb⟩ : ∃ lb, l[k]? = some lb := ⟨l[k]'(by omega), List.getElem?_eq_getElem _⟩
      have c0 : wr.cell? ⟨bl, off + k, none⟩ = some (.bool lb) := (hbel.cell (p := ⟨bl, off + k, none⟩) hbl).trans (hcells k lb hlb)
      clear hbel hmem hcells hlb hll
      cases lb with
      | true =>
          by_cases hne : e = 0
          · subst hne
            obtain ⟨t, kk, x, hk2, hsec, hcall⟩ := text_at hat hs
            obtain ⟨a2, ha2⟩ : ∃ a2, a2 = a + kk := ⟨_, rfl⟩
            rw [← ha2] at hk2 hcall
            have hai : (a : Int) + (kk : Int) = (a2 : Int) := by omega
            have hk2i : (a2 : Int) ≤ (s.size : Int) := by omega
            have Hsec := Lib.hid hsec
            have Hcall := Lib.hid hcall
            clear hsec hcall hat ha2 hk2
            by_cases hx : x = 0
            · subst hx
              have hz1 : ((0 : Int) != 0) = false := rfl
              have hz2 : ((0 : Int) == 0) = true := rfl
              go_wp2_with (first
                | (go_at_call 12; refine (Hsec.out _).mono ?_; rintro e w4 ⟨rfl, rfl⟩)
                | (go_at_call 14; refine (Hcall.out).mono ?_; rintro e w5 ⟨rfl, h5, hg5⟩; have hb5 : Below w.heap.size wr w5 := below_gb hg5 (Nat.le_refl _) hwz; have c5 : w5.cell? ⟨bl, off + k, none⟩ = some (.bool true) := (hb5.cell (p := ⟨bl, off + k, none⟩) hbl).trans c0)
                | (go_at_call 16; refine (err_at h5).mono ?_; rintro e w6 ⟨rfl, rfl⟩)
                | (go_at_call 17; refine (left_at h5).mono ?_; rintro e w6 ⟨rfl, rfl⟩))
              go_roundw
              case rel => exact ⟨k + 1, a2, 0, by omega, by omega, rfl, rfl, by go_num, h5, Hbel.out.trans hb5⟩
              case measure => simp [intOf]; omega
            · have hne := hx
              have hne1 : (x != 0) = true := by simp [hx]
              clear hx
              go_wp2_with (first
                | (go_at_call 12; refine (Hsec.out _).mono ?_; rintro e w4 ⟨rfl, rfl⟩)
                | (go_at_call 14; refine (Hcall.out).mono ?_; rintro e w5 ⟨rfl, h5, hg5⟩; have hb5 : Below w.heap.size wr w5 := below_gb hg5 (Nat.le_refl _) hwz; have c5 : w5.cell? ⟨bl, off + k, none⟩ = some (.bool true) := (hb5.cell (p := ⟨bl, off + k, none⟩) hbl).trans c0)
                | (go_at_call 16; refine (err_at h5).mono ?_; rintro e w6 ⟨rfl, rfl⟩)
                | (go_at_call 17; refine (left_bad h5 hne).mono ?_; rintro e w6 ⟨rfl, rfl⟩))
              go_roundw
              case rel => exact ⟨k + 1, a2, x, by omega, by omega, rfl, rfl, by go_num, h5, Hbel.out.trans hb5⟩
              case measure => simp [intOf]; omega
          · have hcall := text_bad hat hne
            have Hcall := Lib.hid hcall
            have hne1 : (e != 0) = true := by simp [hne]
            have hne2 : (e == 0) = false := by simp [hne]
            clear hcall hat
            go_wp2_with (first
              | (go_at_call 14; refine (Hcall.out).mono ?_; rintro e w5 ⟨rfl, h5, hg5⟩; have hb5 : Below w.heap.size wr w5 := below_gb hg5 (Nat.le_refl _) hwz; have c5 : w5.cell? ⟨bl, off + k, none⟩ = some (.bool true) := (hb5.cell (p := ⟨bl, off + k, none⟩) hbl).trans c0)
              | (go_at_call 16; refine (err_at h5).mono ?_; rintro e w6 ⟨rfl, rfl⟩)
              | (go_at_call 17; refine (left_bad h5 hne).mono ?_; rintro e w6 ⟨rfl, rfl⟩))
            go_roundw
            case rel => exact ⟨k + 1, a, e, by omega, by omega, rfl, rfl, by go_num, h5, Hbel.out.trans hb5⟩
            case measure => simp [intOf]; omega
      | false =>
          by_cases hne : e = 0
          · subst hne
            obtain ⟨t, kk, x, hk2, hsec, hcall⟩ := num_at hat hs
            obtain ⟨a2, ha2⟩ : ∃ a2, a2 = a + kk := ⟨_, rfl⟩
            rw [← ha2] at hk2 hcall
            have hai : (a : Int) + (kk : Int) = (a2 : Int) := by omega
            have hk2i : (a2 : Int) ≤ (s.size : Int) := by omega
            have Hsec := Lib.hid hsec
            have Hcall := Lib.hid hcall
            clear hsec hcall hat ha2 hk2
            by_cases hx : x = 0
            · subst hx
              have hz1 : ((0 : Int) != 0) = false := rfl
              have hz2 : ((0 : Int) == 0) = true := rfl
              go_wp2_with (first
                | (go_at_call 13; refine (Hsec.out _).mono ?_; rintro e w4 ⟨rfl, rfl⟩)
                | (go_at_call 15; refine (Hcall.out).mono ?_; rintro e w5 ⟨rfl, h5, hg5⟩; have hb5 : Below w.heap.size wr w5 := below_gb hg5 (Nat.le_refl _) hwz; have c5 : w5.cell? ⟨bl, off + k, none⟩ = some (.bool false) := (hb5.cell (p := ⟨bl, off + k, none⟩) hbl).trans c0)
                | (go_at_call 16; refine (err_at h5).mono ?_; rintro e w6 ⟨rfl, rfl⟩)
                | (go_at_call 17; refine (left_at h5).mono ?_; rintro e w6 ⟨rfl, rfl⟩))
              go_roundw
              case rel => exact ⟨k + 1, a2, 0, by omega, by omega, rfl, rfl, by go_num, h5, Hbel.out.trans hb5⟩
              case measure => simp [intOf]; omega
            · have hne := hx
              have hne1 : (x != 0) = true := by simp [hx]
              clear hx
              go_wp2_with (first
                | (go_at_call 13; refine (Hsec.out _).mono ?_; rintro e w4 ⟨rfl, rfl⟩)
                | (go_at_call 15; refine (Hcall.out).mono ?_; rintro e w5 ⟨rfl, h5, hg5⟩; have hb5 : Below w.heap.size wr w5 := below_gb hg5 (Nat.le_refl _) hwz; have c5 : w5.cell? ⟨bl, off + k, none⟩ = some (.bool false) := (hb5.cell (p := ⟨bl, off + k, none⟩) hbl).trans c0)
                | (go_at_call 16; refine (err_at h5).mono ?_; rintro e w6 ⟨rfl, rfl⟩)
                | (go_at_call 17; refine (left_bad h5 hne).mono ?_; rintro e w6 ⟨rfl, rfl⟩))
              go_roundw
              case rel => exact ⟨k + 1, a2, x, by omega, by omega, rfl, rfl, by go_num, h5, Hbel.out.trans hb5⟩
              case measure => simp [intOf]; omega
          · have hcall := num_bad hat hne
            have Hcall := Lib.hid hcall
            have hne1 : (e != 0) = true := by simp [hne]
            have hne2 : (e == 0) = false := by simp [hne]
            clear hcall hat
            go_wp2_with (first
              | (go_at_call 15; refine (Hcall.out).mono ?_; rintro e w5 ⟨rfl, h5, hg5⟩; have hb5 : Below w.heap.size wr w5 := below_gb hg5 (Nat.le_refl _) hwz; have c5 : w5.cell? ⟨bl, off + k, none⟩ = some (.bool false) := (hb5.cell (p := ⟨bl, off + k, none⟩) hbl).trans c0)
              | (go_at_call 16; refine (err_at h5).mono ?_; rintro e w6 ⟨rfl, rfl⟩)
              | (go_at_call 17; refine (left_bad h5 hne).mono ?_; rintro e w6 ⟨rfl, rfl⟩))
            go_roundw
            case rel => exact ⟨k + 1, a, e, by omega, by omega, rfl, rfl, by go_num, h5, Hbel.out.trans hb5⟩
            case measure => simp [intOf]; omega
    · have Hat := Lib.hid hat
      have hg : decide (k < len) = false ∨ ((60 : Int) < (len : Int) ∧ k = 60) := by
        by_cases h1 : k < len
        · exact .inr ⟨by omega, by omega⟩
        · exact .inl (by simp; omega)
      clear hbel hlt
      by_cases he : e = 0
      · subst he
        by_cases hend : a < s.size
        · have hd : decide ((a : Int) < (s.size : Int)) = true := by simp; omega
          have hz2 : ((0 : Int) == 0) = true := rfl
          rcases hg with hg1 | ⟨hg1, rfl⟩
          all_goals
            go_wp2_with (first
              | (go_at_call 7; refine (awake_any _).mono ?_; rintro e w2 ⟨rfl, hb2⟩; have h2 := At.below Hat.out hb2)
              | (go_at_call 18; refine (end_at h2 hs).mono ?_; rw [if_pos rfl, if_pos hend]; rintro e w3 ⟨rfl, rfl⟩))
            go_ret
            exact ⟨rfl, Hbel.out.trans (hb2.mono hwz)⟩
        · have hd : decide ((a : Int) < (s.size : Int)) = false := by simp; omega
          have hz2 : ((0 : Int) == 0) = true := rfl
          rcases hg with hg1 | ⟨hg1, rfl⟩
          all_goals
            go_wp2_with (first
              | (go_at_call 7; refine (awake_any _).mono ?_; rintro e w2 ⟨rfl, hb2⟩; have h2 := At.below Hat.out hb2)
              | (go_at_call 18; refine (end_at h2 hs).mono ?_; rw [if_pos rfl, if_neg hend]; rintro e w3 ⟨rfl, rfl⟩))
            go_ret
            exact ⟨rfl, Hbel.out.trans (hb2.mono hwz)⟩
      · have hne2 : (e == 0) = false := by simp [he]
        rcases hg with hg1 | ⟨hg1, rfl⟩
        all_goals
          go_wp2_with (first
            | (go_at_call 7; refine (awake_any _).mono ?_; rintro e w2 ⟨rfl, hb2⟩; have h2 := At.below Hat.out hb2)
            | (go_at_call 18; refine (end_at h2 hs).mono ?_; rw [if_neg he]; rintro e w3 ⟨rfl, rfl⟩))
          go_ret
          exact ⟨rfl, Hbel.out.trans (hb2.mono hwz)⟩
end Go.Proofs.Ytnjmdbgpabekaaa
