/- The document's own answers of layer 4: Read. -/
import Derived.Test.YtlccbebociknaaaFrmRef2
import Derived.OwnWalk
namespace Go.Proofs.Ytlccbebociknaaa
open Go.RowKit

theorem strInfo : (Try.prog.info? 9).map (fun i => (i.zero, i.size, i.bytes)) = some (some (.string ⟨#[]⟩), 1, 16) := by kernel_rfl

theorem own_below {w w' : World} {base t size n : Nat} {v : Value} {xs : List Value} (h : w.ownsRow base t size v n xs) (k : Below w.heap.size w w') : w'.ownsRow base t size v n xs :=
  h.kept (Kept.ofBelow k (fun i => i = w.heap.size)).grown (Or.inr (fun e => by have := (h.lt _ e).2; omega))

/-- The call's own slice holds these texts. -/
def TextsOwn (w : World) (out : List (List UInt8)) (v : Value) (wr : World) : Prop := wr.ownsRow w.heap.size 9 1 v out.length (texts out) ∧ Below w.heap.size w wr

theorem texts_start (w : World) : TextsOwn w [] (.slice none 0 0) w := ⟨World.ownsRow_nil _ _ _ _, Below.refl _ _⟩

theorem TextsOwn.below {w w1 w2 : World} {out : List (List UInt8)} {v : Value} (h : TextsOwn w out v w1) (k : Below w1.heap.size w1 w2) : TextsOwn w out v w2 := ⟨own_below h.1 k, h.2.trans (k.mono h.2.size)⟩

theorem texts_more {w wr w2 : World} {out : List (List UInt8)} {v v' : Value} {o : Obj} {x : List UInt8} (h : TextsOwn w out v wr) (hown : w2.ownsRow w.heap.size 9 1 v' (out.length + 1) (texts out ++ [.string (mk x)])) (hg : (wr.alloc o).grownBy w2 v.ownBlock) :
    TextsOwn w (out ++ [x]) v' w2 := by
  obtain ⟨h1, h2⟩ := h
  refine ⟨?_, (h2.alloc h2.size o).grown hg (by have := h2.size; simp; omega) (fun k hk => (h1.lt k hk).1)⟩
  rw [List.length_append]
  simpa [texts] using hown

theorem TextsOwn.cells {w w' : World} {out : List (List UInt8)} {v : Value} (h : TextsOwn w out v w') : Cells w' (NewIn w w') v (texts out) := Cells.ofOwn h.1 (fun _ _ h1 h2 => ⟨h1, h2⟩)

def sizeIn : Value → Nat | .string b => b.size | _ => 0

/-- What has been read, and what is left. -/
def Rest (S : List UInt8) (d : List (List UInt8)) (r : List UInt8) : Prop := d.length + r.length ≤ S.length ∧ Frm.read S = if (Frm.read r).2 = 0 then (d ++ (Frm.read r).1, 0) else ([], (Frm.read r).2)

theorem rest_start (S : List UInt8) : Rest S [] S := ⟨by simp, by
  by_cases h : (Frm.read S).2 = 0
  · rw [if_pos h, List.nil_append, ← h]
  · rw [if_neg h, ← Frm.read_none S h]⟩

theorem rest_end {S : List UInt8} {d : List (List UInt8)} (h : Rest S d []) : Frm.read S = (d, 0) := by
  have := h.2
  rw [show Frm.read [] = ([], 0) from rfl] at this
  simpa using this

theorem rest_bad {S r : List UInt8} {d : List (List UInt8)} (h : Rest S d r) (hr : r ≠ []) (hx : (Frm.first r).2.2 ≠ 0) : Frm.read S = ([], (Frm.first r).2.2) := by
  have e := Frm.read_step r hr
  rw [if_neg hx] at e
  have := h.2
  rw [e] at this
  rw [this, if_neg hx]

theorem rest_step {S r : List UInt8} {d : List (List UInt8)} (h : Rest S d r) (hr : r ≠ []) (hx : (Frm.first r).2.2 = 0) : Rest S (d ++ [(Frm.first r).1]) (r.drop (Frm.first r).2.1) := by
  have e := Frm.read_step r hr
  rw [if_pos hx] at e
  have hn := (Frm.first_only r (Frm.first r).1 (Frm.first r).2.1 (by rw [← hx])).2.2.2
  have hr0 : 0 < r.length := List.length_pos_iff.2 hr
  refine ⟨by have := h.1; rw [List.length_append, List.length_drop]; simp; omega, ?_⟩
  rw [h.2, e]
  by_cases hz : (Frm.read (r.drop (Frm.first r).2.1)).2 = 0
  · rw [if_pos hz, if_pos rfl, if_pos hz]; simp
  · rw [if_neg hz, if_neg hz, if_neg hz]

set_option maxRecDepth 100000 in
set_option maxHeartbeats 1600000 in
theorem ref_records (s : ByteArray) (w : World) (hs : s.size ≤ 100000) :
    Calls Try.prog 15 #[.string s] w fun e w' => ∃ v, e = .returned (.tuple #[v, .int .i64 (Frm.read s.data.toList).2]) ∧ Cells w' (NewIn w w') v (texts (Frm.read s.data.toList).1) ∧ Below w.heap.size w w' := by
  obtain ⟨i0, hi, hz0, hz1, hz2⟩ := info_parts strInfo
  obtain ⟨S, rfl⟩ : ∃ S, s = mk S := ⟨_, (mk_of s).symm⟩
  rw [mk_data]
  rw [mk_len] at hs
  go_enter Try.func15, Try.ntmps15
  go_wp2_with fail
  go_loopw [0, 4] (fun o v wr => ∃ (d : List (List UInt8)) (r : List UInt8), o = .string (mk r) ∧ Rest S d r ∧ TextsOwn w d v wr) (fun o _ _ => sizeIn o)
  case atStart => exact ⟨[], S, rfl, rest_start S, texts_start w⟩
  case round =>
    obtain ⟨d, r, rfl, hrest, hown⟩ := hrel
    by_cases hr : r = []
    · subst hr
      have hfin := Lib.hid (rest_end hrest)
      have Hown := Lib.hid hown
      clear hown hrest
      have hb : ¬ 0 < (mk []).size := Nat.lt_irrefl 0
      generalize hy : mk [] = y at *
      clear hy
      go_wp2_with fail
      go_ret2
      exact ⟨u4, by rw [hfin.out]; rfl, by rw [hfin.out]; exact Hown.out.cells, Hown.out.2⟩
    · have hr0 : 0 < r.length := List.length_pos_iff.2 hr
      have hrl := hrest.1
      have hsz : ((mk r).size : Int) > 0 := by rw [mk_len]; omega
      have hb : decide (((mk r).size : Int) > 0) = true := by simpa using hsz
      have hfrm := fun W => ref_frame (mk r) W (by rw [mk_len]; omega)
      rw [mk_data] at hfrm
      by_cases hx : (Frm.first r).2.2 = 0
      · obtain ⟨-, hn, hrr, -⟩ := Frm.first_only r (Frm.first r).1 (Frm.first r).2.1 (by rw [← hx])
        have hnl : (Frm.first r).2.1 ≤ r.length := by
          have e := congrArg List.length hrr
          rw [List.length_append, List.length_drop, ← hn] at e
          omega
        have hstep := Lib.hid (rest_step hrest hr hx)
        have hn5 := (Frm.first_only r (Frm.first r).1 (Frm.first r).2.1 (by rw [← hx])).2.2.2
        have hcut : Hid ((mk r).extract (Frm.first r).2.1 (mk r).size = mk (r.drop (Frm.first r).2.1)) := bytes_ext (by
          rw [Lib.extract_data, mk_data, mk_len, mk_data, ← List.length_drop, List.take_length])
        have hnl2 : ((Frm.first r).2.1 : Int) ≤ ((mk r).size : Int) := by rw [mk_len]; omega
        have hmeas : Hid ((mk (r.drop (Frm.first r).2.1)).size < (mk r).size) := Lib.hid (by rw [mk_len, mk_len, List.length_drop]; omega)
        have hdl : Hid (d.length ≤ 100000) := Lib.hid (by omega)
        rw [hx] at hfrm
        have HF := Lib.hid hfrm
        clear hfrm hn hrr hnl hx hn5 hrest hr hr0 hrl
        generalize (Frm.first r).1 = t at *
        generalize (Frm.first r).2.1 = n at *
        generalize hy2 : mk (r.drop n) = y2 at *
        generalize mk r = y at *
        generalize hxx : mk t = x at *
        go_wp2_with fail
        refine (HF.out wr).mono ?_
        rintro e w1 ⟨rfl, h1⟩
        rw [hxx]
        have hown1 := hown.below h1
        have Hown1 := Lib.hid hown1
        have hz := hown1.2.size
        have hown1 := hown1.1
        have hs1 := h1.size
        have hc1 : ∀ {w1 : World} j u, [Value.string x][j]? = some u → (w1.alloc (.cells #[.string x] 9)).cell? ((⟨w1.heap.size, 0, none⟩ : Addr).add j) = some u := by
          intro w1 j u hj
          match j, hj with
          | 0, hj => simp at hj; subst hj; simp [Addr.add]
        clear h1 hown
        go_wp2_with (at_builtin; refine wpList_append_own _ rfl _ _ 22 rfl w.heap.size 9 i0 (.string ⟨#[]⟩) 1 16 Try.underlying22 hi hz0 hz1 hz2 rfl (by decide) _ _ _ rfl (hown1.alloc _) ⟨w1.heap.size, 0, none⟩ 1 1 [.string x] rfl rfl hc1 ?c2 ?c3 ?c4 ?c5 ?_)
        case c2 => intro u hu; simp at hu; subst hu; rfl
        case c3 => have := hdl.out; unfold maxLen; omega
        case c4 => have := hdl.out; omega
        case c5 => simp; omega
        intro v' w2 hown' hgrow' _
        have hnew := texts_more Hown1.out (x := t) (v' := v') (by rw [hxx]; simpa using hown') hgrow'
        clear hown' hgrow' hown1 Hown1
        go_wp2
        go_roundw
        case rel => exact ⟨_, r.drop n, by rw [hcut.out, hy2], hstep.out, hnew⟩
        case measure => rw [hcut.out]; exact hmeas.out
      · have hfin := Lib.hid (rest_bad hrest hr hx)
        have hb2 : ((Frm.first r).2.2 != 0) = true := by simp [hx]
        have HF := Lib.hid hfrm
        have Hown := Lib.hid hown
        clear hfrm hown hrest hr hr0 hrl
        generalize (Frm.first r).2.2 = x at *
        generalize (Frm.first r).1 = t at *
        generalize (Frm.first r).2.1 = n at *
        generalize mk r = y at *
        go_wp2_with fail
        refine (HF.out wr).mono ?_
        rintro e w1 ⟨rfl, h1⟩
        have h1 := Lib.hid h1
        go_wp2_with fail
        go_ret2
        exact ⟨.slice none 0 0, by rw [hfin.out]; rfl, by rw [hfin.out]; exact Cells.none _ _, Hown.out.2.trans (h1.out.mono Hown.out.2.size)⟩
end Go.Proofs.Ytlccbebociknaaa
