/- The landed sizes: what ranges have of the sizes that there are, by rising beginnings. -/
import Derived.Test.YtenlcadndfbnaaaSzSrt
set_option linter.unusedSimpArgs false
set_option linter.unusedVariables false
namespace Go.Proofs.Ytenlcadndfbnaaa
open Go.RowKit

set_option maxRecDepth 100000 in
set_option maxHeartbeats 1600000 in
theorem sz_rising {w : World} {F : Nat → Prop} {v : Value} {l : List Sz.Rg} (h : Rgs w F v l) (hl : l.length ≤ 1000000) :
    Calls Try.prog 21 #[v] w fun e w' => ∃ v' S, e = .returned v' ∧ RowsOwn 29 2 rgV w S v' w' ∧ Sz.Rising S ∧ S.length ≤ l.length ∧ ∀ n, Sz.holds S n = Sz.holds l n := by
  obtain ⟨A, cap, rfl, hcap⟩ := h.parts
  have H := Lib.hid h
  have hl' : (l.length : Int) ≤ 1000000 := by omega
  clear h
  go_enter Try.func21, Try.ntmps21
  go_wp2_with fail
  go_loopw [3, 8] (fun o i wr => ∃ n : Nat, n ≤ l.length ∧ i = .int .i64 (n : Int) ∧ RowsOwn 29 2 rgV w (Sz.clip (l.take n)) o wr) (fun _ i _ => l.length - (intOf i).toNat)
  case atStart => exact ⟨0, Nat.zero_le _, rfl, RowsOwn.start _ _ _ w⟩
  case round =>
    obtain ⟨n, hn, rfl, hown⟩ := hrel
    by_cases hlt : n < l.length
    · obtain ⟨b, o, cap', e, -, -, hb⟩ := H.out.block (by omega)
      injection e with e1 e2 e3
      subst e1 e3
      obtain ⟨x, hx⟩ : ∃ x, l[n]? = some x := ⟨_, List.getElem?_eq_getElem hlt⟩
      obtain ⟨c0, c1⟩ := Rgs.at (H.out.below (Below.refl _ _)) hx
      have c0 : wr.cell? ⟨b, o + n * 2, none⟩ = some (.int .i64 x.1) := (hown.2.cell (p := ⟨b, o + n * 2, none⟩) hb).trans c0
      have c1 : wr.cell? ⟨b, o + n * 2 + 1, none⟩ = some (.int .i64 x.2) := (hown.2.cell (p := ⟨b, o + n * 2 + 1, none⟩) hb).trans c1
      have hst := Lib.hid (Sz.clip_take hx)
      have hcl := Sz.clip_len (l.take n)
      rw [List.length_take] at hcl
      have hn0 : (0 : Int) ≤ (n : Int) := by omega
      have hn1 : (n : Int) < (l.length : Int) := by omega
      clear hx
      obtain ⟨x1, x2⟩ := x
      simp only at c0 c1
      have hzr := hown.2.size
      have HA := Lib.hid (sz_add (hown.1.alloc (.cells #[.int .i64 x1, .int .i64 x2] 29)) (by simp; omega) (by omega) (max x1 0) (min x2 200))
      have hmore : Hid (∀ v' w', w'.ownsRow w.heap.size 29 2 v' (Sz.clip (l.take n) ++ ext (max x1 0) (min x2 200)).length ((Sz.clip (l.take n) ++ ext (max x1 0) (min x2 200)).flatMap rgV) → (wr.alloc (.cells #[.int .i64 x1, .int .i64 x2] 29)).grownBy w' u3.ownBlock → RowsOwn 29 2 rgV w (Sz.clip (l.take (n + 1))) v' w') := Lib.hid (by
        intro v' w' h1 h2
        rw [hst.out]
        exact ⟨h1, (hown.2.alloc hown.2.size _).grown h2 (by simp; omega) (fun k hk => (hown.1.lt k hk).1)⟩)
      clear hown hst
      go_wp2_with fail
      refine (HA.out).mono ?_
      rintro e w3 ⟨v3, rfl, h1, h2, -⟩
      have hnew := hmore.out v3 w3 h1 h2
      clear h1 h2
      go_wp2_with fail
      exact ⟨⟨n + 1, by omega, by go_num, hnew⟩, by show l.length - ((n : Int) + 1).toNat < l.length - (n : Int).toNat; omega⟩
    · obtain rfl : n = l.length := by omega
      rw [List.take_length] at hown
      have hcl := Sz.clip_len l
      have HS := Lib.hid (ris_sort hown (by omega))
      have hfin : Hid (∀ S : List Sz.Rg, S.Perm (Sz.clip l) → (∀ (i j : Nat) (x y : Sz.Rg), i < j → S[i]? = some x → S[j]? = some y → x.1 ≤ y.1) → Sz.Rising S ∧ S.length ≤ l.length ∧ ∀ n, Sz.holds S n = Sz.holds l n) := Lib.hid (by
        intro S hp hu
        exact ⟨⟨fun x hx => Sz.clip_bd l x (hp.mem_iff.1 hx), hu⟩, by rw [hp.length_eq]; exact hcl, fun n => by rw [Sz.holds_perm hp, Sz.clip_holds]⟩)
      clear hown hcl
      go_wp2_with fail
      refine (HS.out).mono ?_
      rintro e w3 ⟨rfl, S, hown3, hp, hu⟩
      have Hown3 := Lib.hid hown3
      have Hf := Lib.hid (hfin.out S hp hu)
      clear hown3 hp hu hfin
      go_wp2_with fail
      go_ret
      exact ⟨u3, S, rfl, Hown3.out, Hf.out⟩
end Go.Proofs.Ytenlcadndfbnaaa
