/- The landed vers: Next; the package as it landed (vers_ok). -/
import Derived.Test.YtpmcjanfgamkoaaVerSrt
import Derived.Test.YtpmcjanfgamkoaaVerNew
set_option linter.unusedSimpArgs false
set_option linter.unusedVariables false
namespace Go.Proofs.Ytpmcjanfgamkoaa
open Go.RowKit Go.Sort

set_option maxRecDepth 100000 in
theorem most_zero (t : Int) : Ver.most t [] = max t 0 := rfl

set_option maxRecDepth 100000 in
theorem ver_next {w : World} {F : Nat → Prop} {v : Value} {l : List Int} (t : Int) (h : Nums w F v l) (hl : l.length ≤ 1000000) (ht : Ver.I64 t) (hb : ∀ n ∈ l, Ver.I64 n) :
    Calls Try.prog 20 #[.int .i64 t, v] w fun e w' => e = .returned (.tuple #[.int .i64 (Ver.next t l).1, .int .i64 (Ver.next t l).2]) ∧ Below w.heap.size w w' := by
  obtain ⟨A, cap, rfl, hcap⟩ := h.parts
  have hbd : Ver.most t l ≤ 9223372036854775807 := Ver.most_bd (by omega) ht.2 (fun x hx => (hb x hx).2)
  have hnx : Hid (Ver.next t l = if Ver.most t l = 9223372036854775807 then (0, 15) else (Ver.most t l + 1, 0)) := Lib.hid rfl
  have H := Lib.hid h
  have hl' : (l.length : Int) ≤ 1000000 := by omega
  have hge := Lib.hid (Ver.most_ge t l)
  clear h hb ht
  have h00 : Hid (Ver.most t (l.take 0) = max t 0) := Lib.hid rfl
  generalize hN : Ver.next t l = N at *
  have HN := Lib.hid hN
  clear hN
  go_enter Try.func20, Try.ntmps20
  go_wp2_with fail
  go_loopw [6, 13] (fun m i wr => ∃ n : Nat, n ≤ l.length ∧ i = .int .i64 (n : Int) ∧ m = .int .i64 (Ver.most t (l.take n)) ∧ Hid (Below w.heap.size w wr)) (fun _ i _ => l.length - (intOf i).toNat)
  case atStart => exact ⟨0, Nat.zero_le _, rfl, by rw [h00.out], Lib.hid (Below.refl _ _)⟩
  case round =>
    obtain ⟨n, hn, rfl, rfl, hbel⟩ := hrel
    by_cases hlt : n < l.length
    · obtain ⟨b, o, cap', e, -, -, hb⟩ := H.out.block (by omega)
      injection e with e1 e2 e3
      subst e1 e3
      obtain ⟨x, hx⟩ : ∃ x, l[n]? = some x := ⟨_, List.getElem?_eq_getElem hlt⟩
      have c0 := (hbel.out.cell (p := ⟨b, o + n, none⟩) hb).trans (Nums.at H.out hx)
      have hst := Lib.hid (Ver.most_take t l n x hx)
      have hn0 : (0 : Int) ≤ (n : Int) := by omega
      have hn1 : (n : Int) < (l.length : Int) := by omega
      clear hx
      generalize Ver.most t (l.take n) = M at *
      go_wp2_with fail
      exact ⟨⟨n + 1, by omega, by go_num, by rw [hst.out], hbel⟩, by show l.length - ((n : Int) + 1).toNat < l.length - (n : Int).toNat; omega⟩
    · obtain rfl : n = l.length := by omega
      rw [List.take_length]
      clear h00
      generalize Ver.most t l = M at *
      have hM0 := hge.out.1
      by_cases hM : M = 9223372036854775807
      · have hN := hnx.out
        rw [if_pos hM] at hN
        subst hM
        have HN2 := Lib.hid hN
        clear hN hM0
        go_wp2_with fail
        go_ret2
        exact ⟨by rw [HN2.out]; rfl, hbel.out⟩
      · have hN := hnx.out
        rw [if_neg hM] at hN
        have HN2 := Lib.hid hN
        have hlt3 : ¬ (9223372036854775807 : Int) ≤ M := by omega
        have hw : IntKind.i64.wrap (M + 1) = M + 1 := IntWalk.i64_in _ ⟨by omega, by omega⟩
        clear hN
        go_wp2_with fail
        go_ret2
        exact ⟨by rw [HN2.out]; rfl, hbel.out⟩

set_option maxRecDepth 100000 in
theorem vers_ok : VersOk where
  check := fun v h => ver_check _ v h
  stamp := fun s h => ver_stamp _ s h
  compare := fun a b => ver_compare _ a b
  none := fun A c => newest_none _ A c
  newest := fun h hl h0 => newest_some h hl h0
  before := fun a b => ver_before _ a b
  sort := fun h hl => (ver_sort h hl).mono (fun e w' ⟨v', he, hr⟩ => ⟨v', he, hr.rows (fun _ _ => rfl), hr.2⟩)
  next := fun t h hl ht hb => ver_next t h hl ht hb
end Go.Proofs.Ytpmcjanfgamkoaa
