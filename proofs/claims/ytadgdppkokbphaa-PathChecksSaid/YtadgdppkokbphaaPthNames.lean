/- The landed path: Names, Check. -/
import Derived.Test.YtadgdppkokbphaaPthMay
import Derived.Test.YtadgdppkokbphaaPthCut
set_option linter.unusedSimpArgs false
set_option linter.unusedVariables false
namespace Go.Proofs.Ytadgdppkokbphaa
open Go.RowKit

set_option maxRecDepth 100000 in
theorem Pth.own_at {w w' : World} {base t size n : Nat} {v : Value} {xs : List Value} (h : w.ownsRow base t size v n xs) (k : ∀ i, v.ownBlock = some i → w'.heap[i]? = w.heap[i]?) : w'.ownsRow base t size v n xs := by
  refine ⟨h.1, ?_⟩
  rcases h.2 with hn | ⟨g, cap, cur, rfl, hb, hgg, rest⟩
  · exact .inl hn
  · exact .inr ⟨g, cap, cur, rfl, hb, (k g rfl).trans hgg, rest⟩

/-- While names are told: those that are done (d), those that the function was told (e). -/
structure NmAt (w : World) (d e : List (List UInt8)) (v : Value) (wr : World) : Prop where
  own : wr.ownsRow (w.heap.size + 2) 9 1 v d.length (texts d)
  r1 : Row wr w.heap.size 3 #[cnt e]
  r2 : Row wr (w.heap.size + 1) 3 #[room e]
  bel : Below w.heap.size w wr
  size : w.heap.size + 2 ≤ wr.heap.size

set_option maxRecDepth 100000 in
theorem NmAt.start (w : World) : NmAt w [] [] (.slice none 0 0) ((w.alloc (.cells #[.int .i64 6] 3)).alloc (.cells #[.int .i64 41] 3)) := by
  refine ⟨World.ownsRow_nil _ _ _ _, (Row.made w _ _).behindNew _, ?_, ((Below.refl _ w).alloc (Nat.le_refl _) _).alloc (by simp) _, by simp⟩
  have := Row.made (w.alloc (.cells #[.int .i64 6] 3)) 3 #[.int .i64 41]
  rw [show (w.alloc (.cells #[.int .i64 6] 3)).heap.size = w.heap.size + 1 from by simp] at this
  exact this

set_option maxRecDepth 100000 in
theorem NmAt.below {w w1 w2 : World} {d e : List (List UInt8)} {v : Value} (h : NmAt w d e v w1) (k : Below w1.heap.size w1 w2) : NmAt w d e v w2 :=
  ⟨Pth.own_at h.own (fun i hi => k.block i (h.own.lt _ hi).2), h.r1.below k h.r1.inHeap, h.r2.below k h.r2.inHeap, h.bel.trans (k.mono h.bel.size), Nat.le_trans h.size k.size⟩

set_option maxRecDepth 100000 in
theorem NmAt.told {w w1 w2 : World} {d e e' : List (List UInt8)} {v : Value} (h : NmAt w d e v w1) (r1 : Row w2 w.heap.size 3 #[cnt e']) (r2 : Row w2 (w.heap.size + 1) 3 #[room e']) (k : Kept (fun i => i = w.heap.size ∨ i = w.heap.size + 1) w1 w2) : NmAt w d e' v w2 :=
  ⟨Pth.own_at h.own (fun i hi => k.block i (h.own.lt _ hi).2 (by have := (h.own.lt _ hi).1; omega)), r1, r2, h.bel.trans (k.below h.bel.size (fun i hi => by omega)), Nat.le_trans h.size k.size⟩

set_option maxRecDepth 100000 in
theorem nm_more {w wr w2 : World} {d e : List (List UInt8)} {v v' : Value} {o : Obj} {x : List UInt8} (h : NmAt w d e v wr) (hown : w2.ownsRow (w.heap.size + 2) 9 1 v' (d.length + 1) (texts d ++ [.string (mk x)])) (hg : (wr.alloc o).grownBy w2 v.ownBlock) : NmAt w (d ++ [x]) e v' w2 := by
  have hne : ∀ k, v.ownBlock = some k → w.heap.size + 2 ≤ k := fun k hk => (h.own.lt k hk).1
  refine ⟨?_, ?_, ?_, ?_, ?_⟩
  · rw [List.length_append, List.length_singleton]
    simpa [texts] using hown
  · exact (h.r1.behindNew o).grown hg (fun e => by have := hne _ e; omega)
  · exact (h.r2.behindNew o).grown hg (fun e => by have := hne _ e; omega)
  · exact (h.bel.alloc h.bel.size o).grown hg (by have := h.bel.size; simp; omega) (fun k hk => by have := hne k hk; omega)
  · have := hg.size; have := h.size; simp at *; omega

set_option maxRecDepth 100000 in
theorem NmAt.cells {w w' : World} {d e : List (List UInt8)} {v : Value} (h : NmAt w d e v w') : Cells w' (NewIn w w') v (texts d) := Cells.ofOwn h.own (fun _ _ h1 h2 => ⟨by omega, h2⟩)

def moreIn (o m : Value) : Nat := match m, o with | .bool true, .string x => x.size + 1 | _, _ => 0

set_option maxRecDepth 100000 in
/-- What comes first of a text, what is left, and whether anything is. -/
theorem cut_parts (r : List UInt8) (hr : r.length ≤ 100000) : ∃ (t r' : List UInt8) (m : Bool), (∀ W, Calls Try.prog 20 #[.string (mk r), .string ⟨#[47]⟩] W fun e w' => e = .returned (.tuple #[.string (mk t), .string (mk r'), .bool m]) ∧ Below W.heap.size W w') ∧
    Pth.splitA [] r = t :: (if m then Pth.splitA [] r' else []) ∧ t.length ≤ r.length ∧ r'.length ≤ r.length ∧ moreIn (.string (mk r')) (.bool m) < moreIn (.string (mk r)) (.bool true) := by
  rcases Pth.index_cases r with ⟨-, h⟩ | ⟨a, b, rfl, h, -⟩
  · refine ⟨r, [], false, fun W => cut_no r W hr h, ?_, Nat.le_refl _, Nat.zero_le _, ?_⟩
    · rw [Pth.splitA_no h]; simp
    · show 0 < (mk r).size + 1; omega
  · refine ⟨a, b, true, fun W => cut_at a b W hr h, ?_, by simp, by simp; omega, ?_⟩
    · rw [Pth.splitA_at h]; simp
    · show (mk b).size + 1 < (mk (a ++ 47 :: b)).size + 1
      rw [mk_len, mk_len]; simp; omega

set_option maxRecDepth 100000 in
set_option maxHeartbeats 3200000 in
theorem pth_names (s : List UInt8) (w : World) (hs : s.length ≤ 100000) :
    Calls Try.prog 9 #[.string (mk s)] w fun e w' => ∃ v, e = .returned (.tuple #[v, .int .i64 (if Pth.Right s then 0 else 13)]) ∧ Cells w' (NewIn w w') v (texts (if Pth.Right s then Pth.split s else [])) ∧ Below w.heap.size w w' := by
  obtain ⟨i0, hi, hz0, hz1, hz2⟩ := info_parts strInfo
  have HN := Lib.hid (pth_namer w)
  unfold mayF at HN
  generalize hE : (if Pth.Right s then (0 : Int) else 13) = E
  generalize hL : (if Pth.Right s then Pth.split s else []) = L
  have HE := Lib.hid hE
  have HL := Lib.hid hL
  clear hE hL
  go_enter Try.func9, Try.ntmps9
  go_wp2_with (go_at_call 19; refine HN.out.mono ?_; rintro e w1 ⟨rfl, e1⟩
               have h0 := Lib.hid (e1 ▸ NmAt.start w)
               clear e1)
  go_loopw [0, 5, 6] (fun o v b wr => ∃ (d : List (List UInt8)) (u : Value) (x : List UInt8) (m : Bool), o = .string (mk x) ∧ b = .bool m ∧ u = v ∧ Pth.split s = d ++ (if m then Pth.splitA [] x else []) ∧ Pth.Fit d ∧ NmAt w d d u wr ∧ x.length ≤ 100000) (fun o _ b _ => moreIn o b)
  case atStart => exact ⟨[], _, s, true, rfl, rfl, rfl, by simp [Pth.split], Pth.fit_nil, h0.out, hs⟩
  case round =>
    obtain ⟨d, v, x, m, rfl, rfl, rfl, hsp, hfit, hat, hx⟩ := hrel
    cases m
    · have hsd : Pth.split s = d := by rw [hsp]; simp
      have hR : Pth.Right s := (Pth.right_fit s).2 (hsd ▸ hfit)
      have E0 : Hid (E = 0) := Lib.hid (by rw [← HE.out, if_pos hR])
      have L0 : Hid (L = d) := Lib.hid (by rw [← HL.out, if_pos hR, hsd])
      have Hat := Lib.hid hat
      clear hat hsp hfit hR hsd
      generalize mk x = X at *
      go_wp2_with fail
      go_ret2
      exact ⟨v, by rw [E0.out]; rfl, by rw [L0.out]; exact Hat.out.cells, Hat.out.bel⟩
    · obtain ⟨t, r', m', hcut, hsa, htl, hrl, hmeas⟩ := cut_parts x hx
      have HC := Lib.hid hcut
      have hd6 : d.length ≤ 6 := hfit.2.1
      have HM := Lib.hid (fun (W : World) (h : NmAt w d d v W) => pth_may (d := d) t h.r1 h.r2 (by omega) hfit (by omega))
      have Hat := Lib.hid hat
      have Hmeas := Lib.hid hmeas
      clear hcut hat hmeas
      by_cases hn : Pth.Next d t
      · have hsp2 : Hid (Pth.split s = (d ++ [t]) ++ (if m' then Pth.splitA [] r' else [])) := Lib.hid (by rw [hsp, if_pos rfl, hsa]; simp)
        have hfit2 := Lib.hid (Pth.fit_next hfit hn)
        have Hr := Lib.hid (Nat.le_trans hrl hx)
        have Hn := Lib.hid hn
        rw [decide_eq_true hn] at HM
        have hlen : Hid ((texts d).length = d.length) := Lib.hid (texts_len d)
        clear hsp hfit hn htl hrl hsa hx
        generalize hx1 : mk t = x1 at *
        generalize mk x = X at *
        generalize hx2 : mk r' = x2 at *
        go_wp2_with fail
        refine (HC.out _).mono ?_
        rintro e w2 ⟨rfl, hb2⟩
        have h2 := Lib.hid (Hat.out.below hb2)
        clear hb2
        go_wp2_with fail
        refine (HM.out _ h2.out).mono ?_
        rintro e w3 ⟨rfl, hr3, hk3⟩
        have h3 := Lib.hid (h2.out.told (hr3 Hn.out).1 (hr3 Hn.out).2 hk3)
        have hown3 := h3.out.own
        have hz3 := h3.out.size
        clear hr3 hk3
        have hc1 : ∀ {w1 : World} j u, [Value.string x1][j]? = some u → (w1.alloc (.cells #[.string x1] 9)).cell? ((⟨w1.heap.size, 0, none⟩ : Addr).add j) = some u := by
          intro w1 j u hj
          match j, hj with
          | 0, hj => simp at hj; subst hj; simp [Addr.add]
        go_wp2_with (at_builtin; refine wpList_append_own _ rfl _ _ 25 rfl (w.heap.size + 2) 9 i0 (.string ⟨#[]⟩) 1 16 Try.underlying25 hi hz0 hz1 hz2 rfl (by decide) _ _ _ rfl (hown3.alloc _) ⟨w3.heap.size, 0, none⟩ 1 1 [.string x1] rfl rfl hc1 ?c2 ?c3 ?c4 ?c5 ?_)
        case c2 => first | rfl | (intro u hu; simp at hu; subst hu; rfl)
        case c3 => unfold maxLen; omega
        case c4 => omega
        case c5 => first | omega | (simp; omega)
        intro v' w4 hown' hgrow' _
        have hnew := nm_more h3.out (x := t) (v' := v') (by rw [hx1]; simpa using hown') hgrow'
        clear hown' hgrow' hown3
        go_wp2
        go_roundw
        case rel => exact ⟨d ++ [t], _, r', m', by rw [hx2], rfl, rfl, hsp2.out, hfit2.out, hnew, Hr.out⟩
        case measure => exact Hmeas.out
      · have hR : ¬ Pth.Right s := fun h => by
          have := (Pth.right_fit s).1 h
          rw [hsp, if_pos rfl, hsa] at this
          exact Pth.fit_not hn this
        have E0 : Hid (E = 13) := Lib.hid (by rw [← HE.out, if_neg hR])
        have L0 : Hid (L = []) := Lib.hid (by rw [← HL.out, if_neg hR])
        rw [decide_eq_false hn] at HM
        clear hsp hfit hn htl hrl hsa hx hR Hmeas hd6
        generalize mk t = x1 at *
        generalize mk x = X at *
        generalize mk r' = x2 at *
        go_wp2_with fail
        refine (HC.out _).mono ?_
        rintro e w2 ⟨rfl, hb2⟩
        have h2 := Lib.hid (Hat.out.below hb2)
        clear hb2
        go_wp2_with fail
        refine (HM.out _ h2.out).mono ?_
        rintro e w3 ⟨rfl, -, hk3⟩
        have hb3 : Hid (Below w.heap.size w w3) := Lib.hid (h2.out.bel.trans (hk3.below h2.out.bel.size (fun i hi => by omega)))
        clear hk3
        go_wp2_with fail
        go_ret2
        exact ⟨.slice none 0 0, by rw [E0.out]; rfl, by rw [L0.out]; exact Cells.none _ _, hb3.out⟩

set_option maxRecDepth 100000 in
theorem pth_check (s : List UInt8) (w : World) (hs : s.length ≤ 100000) :
    Calls Try.prog 8 #[.string (mk s)] w fun e w' => e = .returned (.int .i64 (if Pth.Right s then 0 else 13)) ∧ Below w.heap.size w w' := by
  have HN := Lib.hid (pth_names s w hs)
  generalize (if Pth.Right s then (0 : Int) else 13) = R at *
  generalize mk s = X at *
  go_enter Try.func8, Try.ntmps8
  go_wp2_with (go_at_call 9; refine HN.out.mono ?_; rintro e w1 ⟨v, rfl, -, hb⟩)
  go_ret
  exact ⟨rfl, hb⟩
end Go.Proofs.Ytadgdppkokbphaa
